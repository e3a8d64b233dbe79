package tests

import (
	"math/rand"
	"regexp"
	"slices"
	"strconv"
	"strings"
	"testing"

	"loop.example/g00150/impl"
)

type textedKey struct {
	key  impl.Key
	text string
}

func textedKeys() []textedKey {
	long := strings.Repeat("z", 12)
	return []textedKey{
		{keyOf("cpu", 0), "cpu@0"},
		{keyOf("c", 7), "c@7"},
		{keyOf("C", 10), "C@10"},
		{keyOf("cpu", impl.MaxStart), "cpu@1000000000"},
		{keyOf("cpu", impl.MaxStart-1), "cpu@999999999"},
		{keyOf("cpu", 100, "h", "a"), "cpu,h=a@100"},
		{keyOf("cpu", 0, "H", "A", "h", "a"), "cpu,H=A,h=a@0"},
		{keyOf("cpu", 13, "a", "x", "ab", "x", "b", "x"), "cpu,a=x,ab=x,b=x@13"},
		{keyOf("q", 1, "a", "b", "c", "d", "e", "f", "g", "h"), "q,a=b,c=d,e=f,g=h@1"},
		{keyOf(long, impl.MaxStart, "wwwwwwwwwwww", long, "xxxxxxxxxxxx", long, "yyyyyyyyyyyy", long, long, long), long + ",wwwwwwwwwwww=" + long + ",xxxxxxxxxxxx=" + long + ",yyyyyyyyyyyy=" + long + "," + long + "=" + long + "@1000000000"},
		{keyOf("event", 20, "tell", "all"), "event,tell=all@20"},
	}
}

func checkKeyText(t *testing.T, k impl.Key, want string) {
	t.Helper()
	if text, ok := impl.KeyText(k); !ok || text != want {
		t.Errorf("KeyText(%v) = %q, %v, want %q", k, text, ok, want)
	}
	if got, ok := impl.ReadKeyText(want); !ok || !sameKey(got, k) {
		t.Errorf("ReadKeyText(%q) = %v, %v, want %v", want, got, ok, k)
	}
}

func checkNoKeyText(t *testing.T, text string) {
	t.Helper()
	if k, ok := impl.ReadKeyText(text); ok || !sameKey(k, impl.Key{}) {
		t.Errorf("ReadKeyText(%.200q) = %v, %v, want zero and false", text, k, ok)
	}
}

func TestPromise12KeysAndTheirTexts(t *testing.T) {
	for _, c := range textedKeys() {
		checkKeyText(t, c.key, c.text)
	}
}

func TestPromise12KeysComeBackFromTheirTexts(t *testing.T) {
	r := rand.New(rand.NewSource(120))
	keys := keysInOrder()
	for range 500 {
		k := drawWinKey(r)
		k.Start = []int{r.Intn(10), r.Intn(1000), r.Intn(impl.MaxStart + 1), impl.MaxStart, 0}[r.Intn(5)]
		keys = append(keys, k)
	}
	for _, k := range keys {
		text, ok := impl.KeyText(k)
		got, read := impl.ReadKeyText(text)
		if !ok || !read || !sameKey(got, k) {
			t.Fatalf("%v as %q, %v comes back as %v, %v", k, text, ok, got, read)
		}
	}
}

func TestPromise12TextsThatAreNoKeys(t *testing.T) {
	long := strings.Repeat("a", 13)
	for _, text := range []string{
		"", "@", "@0", "cpu", "cpu@", "cpu0", "cpu,h=a", "0@cpu", "cpu@cpu",
		"cpu@00", "cpu@01", "cpu@010", "cpu,h=a@00", "cpu@0000000000", "cpu@0000000001",
		"cpu@-0", "cpu@-1", "cpu@+0", "cpu@+1", "cpu@ 1", "cpu@1 ", " cpu@1", "cpu @1", "cpu@1\n", "\ncpu@1", "cpu@1\x00",
		"cpu@12345678901", "cpu@10000000000", "cpu@00000000001", "cpu@1000000001", "cpu@9999999999", "cpu@18446744073709551617", "cpu@" + strings.Repeat("1", 5000),
		"cpu@@1", "cpu@1@", "cpu@1@2", "@cpu@1", "cpu@1@1", "cpu,h=a@1@1", "cpu@h=a@1",
		"cpu,h==a@1", "cpu,h=a=b@1", "cpu,=h=a@1", "cpu,h=a=@1", "cpu=a@1", "cpu=@1", "=cpu@1",
		"cpu,h@1", "cpu,ha@1", "cpu,h=a,i@1", "cpu,h,i=a@1",
		"cpu,=a@1", "cpu,h=@1", "cpu,=@1", ",h=a@1", "cpu,h=a,=b@1", "cpu,h=a,i=@1",
		"cpu,@1", "cpu,h=a,@1", "cpu,,h=a@1", "cpu,h=a,,i=b@1", ",cpu@1", ",cpu,h=a@1", "cpu,h=a@1,", "cpu,h=a@,1",
		"cpu,h=a,h=a@1", "cpu,h=a,h=b@1", "cpu,i=a,h=a@1", "cpu,a=x,c=x,b=x@1", "cpu,a=x,A=x@1", "cpu,ab=x,a=x@1",
		"cpu,a=x,b=x,c=x,d=x,e=x@1", "cpu,a=x,b=x,c=x,d=x,e=x,f=x@1",
		"c1@1", "1@1", "c-u@1", "c_u@1", "cpü@1", "c\xffu@1", "\xff@1", "cpu,h1=a@1", "cpu,h=a1@1", "cpu,ü=a@1", "cpu,h=ü@1", "cpu,h=日本@1",
		"cpu@1e1", "cpu@0x1", "cpu@1.0", "cpu@1_0", "cpu@１", "cpu@٣", "cpu@\xff", "cpu@1\xff",
		long + "@1", "cpu," + long + "=a@1", "cpu,h=" + long + "@1",
		"cpu;h=a@1", "cpu,h:a@1", "cpu, h=a@1", "cpu,h =a@1", "cpu,h= a@1", "cpu,h=a @1", "cpu\t@1", "cpu,h=a@1#1",
	} {
		checkNoKeyText(t, text)
	}
}

var keyForm = regexp.MustCompile(`^([a-zA-Z]{1,12})((?:,[a-zA-Z]{1,12}=[a-zA-Z]{1,12}){0,4})@(0|[1-9][0-9]{0,9})$`)

// plainKey reads a key's text by the chapter's words.
func plainKey(text string) (impl.Key, bool) {
	m := keyForm.FindStringSubmatch(text)
	if m == nil {
		return impl.Key{}, false
	}
	start, _ := strconv.Atoi(m[3])
	words := strings.FieldsFunc(m[2], func(r rune) bool { return r == ',' || r == '=' })
	k := keyOf(m[1], start, words...)
	var names []string
	for _, tag := range k.Tags {
		names = append(names, tag.Name)
	}
	rising := slices.IsSorted(names) && len(slices.Compact(names)) == len(k.Tags)
	if !rising || start > impl.MaxStart {
		return impl.Key{}, false
	}
	return k, true
}

func checkTextOrNone(t *testing.T, text string) bool {
	t.Helper()
	want, wantOk := plainKey(text)
	k, ok := impl.ReadKeyText(text)
	if ok != wantOk || !sameKey(k, want) {
		t.Fatalf("ReadKeyText(%q) = %v, %v, want %v, %v", text, k, ok, want, wantOk)
	}
	if back, is := impl.KeyText(k); ok && (!is || back != text) {
		t.Fatalf("KeyText of what %q tells = %q, %v", text, back, is)
	}
	return ok
}

// Each byte of a text changed to each other, taken away, and put between.
func TestPromise12TextsNearAKey(t *testing.T) {
	read, refused := 0, 0
	see := func(text string) {
		if checkTextOrNone(t, text) {
			read++
		} else {
			refused++
		}
	}
	for _, c := range textedKeys() {
		for at := range len(c.text) + 1 {
			for b := range 256 {
				see(c.text[:at] + string([]byte{byte(b)}) + c.text[at:])
				if at < len(c.text) {
					see(c.text[:at] + string([]byte{byte(b)}) + c.text[at+1:])
				}
			}
			see(c.text[:at])
			see(c.text[at:])
			if at < len(c.text) {
				see(c.text[:at] + c.text[at+1:])
			}
		}
	}
	if read < 1000 || refused < 1000 {
		t.Errorf("%d were read, %d refused", read, refused)
	}
}

func TestPromise12AnyTextAsAKey(t *testing.T) {
	r := rand.New(rand.NewSource(121))
	parts := []string{"cpu", "a", "b", "B", ",", "=", "@", "0", "1", "10", "-", " ", ",a=b", ",b=c", "@10", "é", "\xff", "1000000000", "abcdefghijkl"}
	read := 0
	for range 40000 {
		text := ""
		for range r.Intn(7) {
			text += parts[r.Intn(len(parts))]
		}
		if checkTextOrNone(t, text) {
			read++
		}
	}
	if read < 50 {
		t.Errorf("only %d texts were keys", read)
	}
}

func TestPromise12TextsOfAggs(t *testing.T) {
	for _, c := range []struct {
		agg  impl.Agg
		want string
	}{
		{noAgg(), "n=0 s=0 lo=0 hi=0"},
		{manyOf(1, 0, 1), "n=1 s=0 lo=0 hi=0"},
		{manyOf(1, -1, 0), "n=1 s=-1 lo=-1 hi=-1"},
		{manyOf(3, 12, 3), "n=3 s=36 lo=12 hi=12"},
		{impl.Agg{Count: 5, Sum: -7, Min: -20, Max: 9, Hist: []int{2, 1, 2, 0, 0, 0, 0, 0}}, "n=5 s=-7 lo=-20 hi=9"},
		{manyOf(impl.MaxCount, impl.MaxNumber, 7), "n=1000000000 s=1000000000000000000 lo=1000000000 hi=1000000000"},
		{manyOf(impl.MaxCount, -impl.MaxNumber, 0), "n=1000000000 s=-1000000000000000000 lo=-1000000000 hi=-1000000000"},
		{fullOf(1, 0, 0), "n=1 s=0 lo=0 hi=0 full"},
		{fullOf(1, -5, 3, 1), "n=1 s=0 lo=-5 hi=3 full"},
		{fullOf(impl.MaxCount, -impl.MaxNumber, impl.MaxNumber, impl.MaxCount), "n=1000000000 s=0 lo=-1000000000 hi=1000000000 full"},
	} {
		if text, ok := impl.AggText(c.agg); !ok || text != c.want {
			t.Errorf("AggText(%v) = %q, %v, want %q", c.agg, text, ok, c.want)
		}
	}
	for _, a := range goodAggs() {
		if text, ok := impl.AggText(a); !ok || text != plainAggText(a) {
			t.Errorf("AggText(%v) = %q, %v, want %q", a, text, ok, plainAggText(a))
		}
	}
}
