package tests

import (
	"math/rand"
	"strings"
	"testing"

	"loop.example/g00150/impl"
)

func TestPromise13TextsOfBadKeys(t *testing.T) {
	for _, k := range badKeys() {
		if text, ok := impl.KeyText(k); ok || text != "" {
			t.Errorf("KeyText(%v) = %q, %v, want nothing and false", k, text, ok)
		}
	}
	for _, start := range append([]int{-1, impl.MaxStart + 1}, farInts()...) {
		for _, k := range []impl.Key{keyOf("cpu", start), keyOf("cpu", start, "h", "a")} {
			if text, ok := impl.KeyText(k); ok || text != "" {
				t.Errorf("KeyText(%v) = %q, %v, want nothing and false", k, text, ok)
			}
		}
	}
}

func TestPromise13TextsOfBadAggs(t *testing.T) {
	for _, c := range append(badAggs(), badAgg{"nothing at all", impl.Agg{}}) {
		if text, ok := impl.AggText(c.agg); ok || text != "" {
			t.Errorf("%s: AggText(%v) = %q, %v, want nothing and false", c.what, c.agg, text, ok)
		}
	}
}

func TestPromise13FarTooLongTexts(t *testing.T) {
	for _, part := range []string{"a", "@", ",", "=", "0", "1", "-", " ", "\n", "\x00", "\xff", "é", ",a=b", "@0", "cpu@0\n", "event a@0 1\n", "tell\n"} {
		for _, many := range []int{3001, 100000} {
			text := strings.Repeat(part, many)
			checkNoKeyText(t, text)
			checkNoKeyText(t, "cpu"+text)
			checkNoKeyText(t, "cpu@"+text)
			checkNoKeyText(t, text+"@0")
			checkNoScript(t, "far too long", text)
		}
	}
}

// Any bytes, as lines where they are, are answered line by line.
func TestPromise13AnyBytesAsAScript(t *testing.T) {
	r := rand.New(rand.NewSource(130))
	parts := []string{
		"event", "mark", "tell", "query", "version", "spill", "pack", "open", "all", " ", " ", " ", "\n", "\n", "\n",
		"cpu@0", "cpu,h=a@13", "0", "1", "-1", "70", "1000000000", "@", ",", "=", "\x00", "\xff", "é", "\r", "\t", "event a@7 3\n", "tell\n",
	}
	scripts := 0
	for play := range 1500 {
		text := ""
		for range r.Intn(60) {
			if play%3 == 0 {
				text += string([]byte{byte(r.Intn(256)), byte(9 + r.Intn(3))})
			} else {
				text += parts[r.Intn(len(parts))]
			}
		}
		lines := strings.Split(text, "\n")
		if lines[len(lines)-1] != "" || len(lines)-1 > impl.MaxLines {
			checkNoScript(t, "no end", text)
			continue
		}
		scripts++
		checkScript(t, "any bytes", lines[:len(lines)-1])
	}
	if scripts < 200 {
		t.Errorf("only %d were scripts", scripts)
	}
}

// Each script cut behind each byte is one where it ends with a byte 10, and then
// its answers are the first ones of the whole.
func TestPromise13CutScripts(t *testing.T) {
	text := "event cpu,h=a@13 5\ntell\nspill\n\nmark 63\nevent cpu,h=a@13 5\nevent cpu@12 1\ntell\npack 0\nall\nopen\nquery cpu,h=a@10\n"
	run, model := impl.RunWindows(text), impl.ModelWindows(text)
	for at := range len(text) {
		part := text[:at]
		if at > 0 && part[at-1] != '\n' {
			checkNoScript(t, "cut", part)
			continue
		}
		got := impl.RunWindows(part)
		if strings.Count(got, "\n") != strings.Count(part, "\n") || !strings.HasPrefix(run, got) || !strings.HasPrefix(model, got) || got != impl.ModelWindows(part) {
			t.Errorf("RunWindows(%q) = %q", part, got)
		}
	}
}

// A version that has no next is given up, with and without a store.
func TestPromise13VersionsWithoutANext(t *testing.T) {
	head := "event va@0 999999999\nevent a@0 1\n"
	want := "ok\nok\ntold a@0#1000000000 va@0#1\nok\nfull\nversion 1000000000\nhave n=2 s=3 lo=1 hi=2\nok\nfull\nall 3\n"
	text := head + "tell\nevent a@0 2\ntell\nversion a@0\nquery a@0\nevent va@0 1000000000\ntell\nall\n"
	for _, got := range []string{impl.RunWindows(text), impl.ModelWindows(text)} {
		if got != want {
			t.Errorf("answered %q, want %q", got, want)
		}
	}
}

func TestPromise13KeysAndAggsStay(t *testing.T) {
	for _, c := range append(textedKeys(), textedKey{keyOf("cpu", 0, "b", "x", "a", "y"), ""}, textedKey{impl.Key{}, ""}) {
		k, stays := looseKey(c.key)
		if text, ok := impl.KeyText(k); text != c.text || ok != (c.text != "") {
			t.Errorf("KeyText(%v) = %q, %v, want %q", c.key, text, ok, c.text)
		}
		if !stays() {
			t.Errorf("KeyText writes into %v", c.key)
		}
	}
	aggs := goodAggs()
	for i, c := range badAggs() {
		if i%10 == 0 {
			aggs = append(aggs, c.agg)
		}
	}
	for _, given := range aggs {
		want, wantOk := impl.AggText(copyAgg(given))
		a, stays := looseAgg(given)
		if text, ok := impl.AggText(a); text != want || ok != wantOk {
			t.Errorf("AggText(%v) = %q, %v, want %q, %v", given, text, ok, want, wantOk)
		}
		if !stays() {
			t.Errorf("AggText writes into %v", given)
		}
	}
}

func TestPromise13ReadKeysAreNew(t *testing.T) {
	for _, c := range textedKeys() {
		k, _ := impl.ReadKeyText(c.text)
		checkNoughtsBehind(t, "tags", k.Tags)
		whole := k.Tags[:cap(k.Tags)]
		for i := range whole {
			whole[i] = impl.Tag{Name: "spoiled"}
		}
		checkKeyText(t, c.key, c.text)
	}
}

func TestPromise13StoresOfTextsAreNew(t *testing.T) {
	for _, lines := range [][]string{nil, {"event a@0 1"}, {"event a@0 1", "tell", "spill", "event b@0 1", "spill", "pack 0", "event a@0 1", "event b@17 1", "spill", "event c@0 1", "tell"}, shortHead()} {
		s, ok := impl.StoreOfText(textOf(lines))
		other, _ := impl.StoreOfText(textOf(lines))
		if !ok || !sameStore(s, other) {
			t.Fatalf("StoreOfText(%q) is told in two ways", lines)
		}
		checkNothingBehindStore(t, s)
		if !fillStore(s) {
			t.Errorf("two lists of the store of %q share memory", lines)
		}
		if again, _ := impl.StoreOfText(textOf(lines)); !sameStore(again, other) {
			t.Errorf("two stores of %q share memory", lines)
		}
	}
}

// What one call did is not there in the next.
func TestPromise13ScriptsLeaveNothing(t *testing.T) {
	text := "all\nevent a@0 1\nmark 1000\ntell\nall\n"
	want := "all 0\nok\nok\ntold a@0#1\nall 2\n"
	for range 3 {
		for _, got := range []string{impl.RunWindows(text), impl.ModelWindows(text)} {
			if got != want {
				t.Errorf("answered %q, want %q", got, want)
			}
		}
		impl.StoreOfText(text)
	}
}
