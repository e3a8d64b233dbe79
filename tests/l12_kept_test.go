package tests

import (
	"fmt"
	"math/rand"
	"slices"
	"strings"
	"testing"

	"loop.example/g00150/impl"
)

// metricsOf has few keys, ordinary ones, those at the bytes of versions, long ones.
func metricsOf(kind int) []string {
	return [][]string{
		{"a"},
		{"a", "b", "cpu", "cpu,h=a", "cpu,h=b", "cpu,h=a,i=b"},
		{"a", "va", "vva", "v", "vv"},
		{"zzzzzzzzzzzz,a=zzzzzzzzzzzz", "abcdefghijkl", "A,B=C,D=E,F=G,H=I", "x", "y", "z", "event", "tell,all=open"},
	}[kind%4]
}

// Whatever is drawn, the store, the lists and the chapter's words tell the same.
func TestPromise12LongScripts(t *testing.T) {
	r := rand.New(rand.NewSource(122))
	full := map[int]int{}
	seen := map[string]int{}
	for play := range 160 {
		d := &scriptDraw{r: r, metrics: metricsOf(play), wide: []int{10, 60, 200}[play%3], moves: []int{0, 10, 25, 45}[play/4%4]}
		lines := d.lines([]int{60, 60, 59, 30}[r.Intn(4)])
		if checkScript(t, "a drawn script", lines) {
			full[play%4]++
		}
		for _, answer := range strings.Split(impl.RunWindows(textOf(lines)), "\n") {
			word, _, _ := strings.Cut(answer, " ")
			seen[word]++
		}
	}
	for _, word := range []string{"ok", "no", "late", "told", "have", "none", "version", "done", "all", "what"} {
		if seen[word] == 0 {
			t.Errorf("no script answers %q: %v", word, seen)
		}
	}
	// Only a window at the bytes of a version can have a sum there that has no next.
	delete(full, 2)
	if len(full) > 0 {
		t.Errorf("drawn scripts were full: %v", full)
	}
}

// withMoves puts lines that move what is kept between the others, and tells where.
func withMoves(r *rand.Rand, lines []string, many int) ([]string, []bool) {
	moved := make([]bool, len(lines))
	out := slices.Clone(lines)
	for range many {
		at := r.Intn(len(out) + 1)
		out = slices.Insert(out, at, []string{"spill", "pack 0", "pack 1", "open"}[r.Intn(4)])
		moved = slices.Insert(moved, at, true)
	}
	return out, moved
}

// checkUnseen holds the answers of a script with moves to those without them.
func checkUnseen(t *testing.T, lines []string, moves []bool, want string) {
	t.Helper()
	answers := strings.SplitAfter(impl.RunWindows(textOf(lines)), "\n")
	others := ""
	for i, answer := range answers[:len(answers)-1] {
		if !moves[i] {
			others += answer
		} else if answer != "done\n" {
			t.Fatalf("%q is answered %q", lines[i], answer)
		}
	}
	if others != want {
		t.Fatalf("moves are seen in the answers of %q, they are\n%q, want\n%q", lines, others, want)
	}
	if model := impl.ModelWindows(textOf(lines)); model != strings.Join(answers, "") {
		t.Fatalf("ModelWindows of %q is\n%q", lines, model)
	}
}

func TestPromise12MovesAreNotSeen(t *testing.T) {
	r := rand.New(rand.NewSource(123))
	for play := range 60 {
		d := &scriptDraw{r: r, metrics: metricsOf(play), wide: 60}
		lines := d.lines(25 + r.Intn(20))
		want := impl.RunWindows(textOf(lines))
		if want != textOf(plainAlone().play(lines)) {
			t.Fatalf("RunWindows of %q is\n%q", lines, want)
		}
		for range 4 {
			with, moved := withMoves(r, lines, impl.MaxLines-len(lines))
			if len(textOf(with)) <= impl.MaxScript {
				checkUnseen(t, with, moved, want)
			}
		}
	}
}

func eachThree(words []string, tell func([]string)) {
	for _, a := range words {
		for _, b := range words {
			for _, c := range words {
				tell([]string{a, b, c})
			}
		}
	}
}

// Every three moves at every place of a short script, and behind each of its lines.
func TestPromise12EachOrderOfMoves(t *testing.T) {
	lines := []string{"event a@3 1", "event b@3 2", "tell", "event a@4 4", "event b@17 8", "tell", "query a@0", "version a@0", "query b@10", "version b@0", "all", "tell"}
	want := textOf([]string{"ok", "ok", "told a@0#1 b@0#1", "ok", "ok", "told a@0#2 b@10#1", "have n=2 s=5 lo=1 hi=4", "version 2", "have n=1 s=8 lo=8 hi=8", "version 1", "all 6", "told"})
	eachThree([]string{"spill", "pack 0", "pack 1", "open"}, func(three []string) {
		for at := range len(lines) {
			with := slices.Insert(slices.Clone(lines), at, three...)
			moved := slices.Insert(make([]bool, len(lines)), at, true, true, true)
			checkUnseen(t, with, moved, want)
		}
		var with []string
		var moved []bool
		for _, line := range lines {
			with = append(append(with, line), three...)
			moved = append(moved, false, true, true, true)
		}
		checkUnseen(t, with, moved, want)
	})
}

func levelSizes(s impl.Store) []int {
	var out []int
	for _, level := range s.Version.Levels {
		out = append(out, len(level))
	}
	return out
}

func storeOf(t *testing.T, lines []string) impl.Store {
	t.Helper()
	s, ok := impl.StoreOfText(textOf(lines))
	if !ok || !impl.GoodStore(s) {
		t.Fatalf("StoreOfText(%q) is %v, not good", textOf(lines), ok)
	}
	return s
}

func TestPromise12WhereThingsAreKept(t *testing.T) {
	for _, c := range []struct {
		lines  []string
		mem    int
		levels []int
	}{
		{nil, 0, []int{0, 0, 0}},
		{[]string{"event a@0 1"}, 1, []int{0, 0, 0}},
		{[]string{"event a@0 1", "event a@0 1"}, 2, []int{0, 0, 0}},
		{[]string{"event a@0 1", "tell"}, 2, []int{0, 0, 0}},
		{[]string{"event a@0 1", "tell", "spill"}, 0, []int{1, 0, 0}},
		{[]string{"event a@0 1", "spill", "tell"}, 1, []int{1, 0, 0}},
		{[]string{"event a@0 1", "spill", "spill", "tell", "spill"}, 0, []int{2, 0, 0}},
		{[]string{"event a@0 1", "spill", "pack 0"}, 0, []int{0, 1, 0}},
		{[]string{"event a@0 1", "spill", "pack 1"}, 0, []int{1, 0, 0}},
		{[]string{"event a@0 1", "spill", "pack 0", "pack 1"}, 0, []int{0, 0, 1}},
		{[]string{"event a@0 1", "spill", "pack 0", "pack 1", "pack 1", "pack 0"}, 0, []int{0, 0, 1}},
		{[]string{"event a@0 1", "spill", "pack 2"}, 0, []int{1, 0, 0}},
		{[]string{"event a@0 1", "open", "open"}, 1, []int{0, 0, 0}},
		{[]string{"mark 70", "event a@19 1", "query a@0", "version a@0", "tell", "all"}, 0, []int{0, 0, 0}},
	} {
		s := storeOf(t, c.lines)
		if len(s.Mem) != c.mem || !slices.Equal(levelSizes(s), c.levels) || s.Files.Quota != impl.MaxQuota {
			t.Errorf("the store of %q has %d in memory and %v on its levels", c.lines, len(s.Mem), levelSizes(s))
		}
		checkScript(t, "where things are kept", c.lines)
	}
}

func TestPromise12EntriesOfAScript(t *testing.T) {
	s := storeOf(t, []string{"event cpu,h=a@13 5", "event b@27 -2", "tell", "event b@20 7", "tell"})
	window, other := string(plainForm(keyOf("cpu", 10, "h", "a"))), string(plainForm(keyOf("b", 20)))
	want := inOrder([]impl.Entry{
		joinOf(window, 1, 5), joinOf(other, 2, -2), putOf("v"+other, 3, 1), putOf("v"+window, 4, 1),
		joinOf(other, 5, 7), putOf("v"+other, 6, 2),
	})
	if !sameEntries(s.Mem, want) {
		t.Errorf("the script has written %v, want %v", s.Mem, want)
	}
	records, _, _ := impl.ReadLog(bytesIn(s.Files, "log-1"))
	if len(records) != 5 {
		t.Errorf("the log has %d batches, want one a line", len(records))
	}
}

// What is told is put in batches of MaxBatch, as far as they go.
func TestPromise12BatchesOfATelling(t *testing.T) {
	for _, many := range []int{1, 9, 10, 11, 20, 21, 25} {
		var lines []string
		for i := range many {
			lines = append(lines, fmt.Sprintf("event a@%d 1", 10*i))
		}
		s := storeOf(t, append(lines, "tell"))
		records, _, _ := impl.ReadLog(bytesIn(s.Files, "log-1"))
		if len(records) != many+(many+9)/10 {
			t.Errorf("%d windows told are %d batches", many, len(records)-many)
		}
	}
}

func eventsAt(metric string, from int, many int) []string {
	var lines []string
	for i := range many {
		lines = append(lines, fmt.Sprintf("event %s@%d %d", metric, 10*(from+i), i))
	}
	return lines
}

// spilled has many tables on level 0, one of each event.
func spilled(metric string, many int) []string {
	var lines []string
	for _, line := range eventsAt(metric, 0, many) {
		lines = append(lines, line, "spill")
	}
	return lines
}

func checkKeptIn(t *testing.T, what string, lines []string, mem int, levels ...int) {
	t.Helper()
	if checkScript(t, what, lines) {
		t.Errorf("%s: something is full", what)
	}
	if s := storeOf(t, lines); len(s.Mem) != mem || !slices.Equal(levelSizes(s), levels) {
		t.Errorf("%s: %d in memory and %v on the levels, want %d and %v", what, len(s.Mem), levelSizes(s), mem, levels)
	}
}

func TestPromise12MemoryIsFlushed(t *testing.T) {
	checkKeptIn(t, "memory just met by events", eventsAt("a", 0, 60), 60, 0, 0, 0)
	checkKeptIn(t, "memory just met by a telling", append(eventsAt("a", 0, 30), "tell"), 60, 0, 0, 0)
	checkKeptIn(t, "an event more", slices.Concat(eventsAt("a", 0, 30), []string{"tell", "event a@0 1"}), 1, 1, 0, 0)
	checkKeptIn(t, "a telling more", append(eventsAt("a", 0, 31), "tell"), 11, 1, 0, 0)
	checkKeptIn(t, "the first batch of a telling", append(eventsAt("a", 0, 51), "tell"), 51, 1, 0, 0)
	checkKeptIn(t, "the last batch of a telling", append(eventsAt("a", 0, 34), "tell"), 14, 1, 0, 0)
	checkKeptIn(t, "flushed ahead by hand", slices.Concat(eventsAt("a", 0, 30), []string{"spill", "tell", "event a@0 1"}), 31, 1, 0, 0)
	checkKeptIn(t, "asked behind", slices.Concat(eventsAt("a", 0, 40), []string{"tell", "query a@0", "query a@390", "version a@0", "version a@390", "open", "all", "pack 0", "query a@10", "all", "tell"}), 20, 0, 3, 0)
}

func TestPromise12LevelsArePacked(t *testing.T) {
	tail := []string{"tell", "query b@0", "version b@110", "all"}
	lines := slices.Concat(spilled("b", 12), eventsAt("c", 0, 32))
	checkKeptIn(t, "no place on level 0", slices.Concat(lines, tail), 24, 1, 1, 0)
	checkKeptIn(t, "one place on level 0", slices.Concat(spilled("b", 11), eventsAt("c", 0, 32), tail), 23, 12, 0, 0)
	checkKeptIn(t, "a table of level 1 beside", slices.Concat([]string{"event z@0 1", "spill", "pack 0"}, spilled("b", 12), eventsAt("c", 0, 29), tail), 12, 1, 2, 0)
	e := plainStored()
	e.play(slices.Concat(lines, tail))
	if e.again != 1 || e.packs != 1 {
		t.Errorf("%d batches were done again, %d of them behind a pack", e.again, e.packs)
	}
}

// fullLevel has 12 tables on level 0 and one of level 1 between them: they are too
// many to be packed, so that nothing can be flushed any more.
func fullLevel() []string {
	return slices.Concat([]string{"event b@0 1", "spill", "pack 0"}, spilled("b", 12))
}

func TestPromise12EventsThatAreFull(t *testing.T) {
	head := slices.Concat(fullLevel(), eventsAt("c", 0, 18), []string{"tell"})
	s := storeOf(t, head)
	if len(s.Mem) != 48 || !slices.Equal(levelSizes(s), []int{12, 1, 0}) {
		t.Fatalf("%d in memory, %v on the levels", len(s.Mem), levelSizes(s))
	}
	lines := slices.Concat(head, eventsAt("d", 0, 12))
	if checkScript(t, "memory just met", lines) {
		t.Error("memory just met is full")
	}
	ahead := storeOf(t, lines)
	lines = append(lines, "event e@0 1")
	if !checkScript(t, "one event more", lines) {
		t.Error("one event more is not full")
	}
	checkStore(t, "one event more", textOf(lines), ahead)
}

// shortHead needs fewer lines: tellings fill the memory up.
func shortHead() []string {
	return slices.Concat(fullLevel(), eventsAt("c", 0, 24))
}

func answersBehind(t *testing.T, head []string, behind []string) []string {
	t.Helper()
	lines := slices.Concat(head, behind)
	checkScript(t, "behind what is full", lines)
	answers := strings.Split(strings.TrimSuffix(impl.RunWindows(textOf(lines)), "\n"), "\n")
	return answers[len(head):]
}

func TestPromise12NothingElseBehindAFullEvent(t *testing.T) {
	// Thirty windows told twice over fill the memory of sixty, with long keys
	// that no table takes: no flush can be done.
	head := append(longEvents(30), "tell")
	if s := storeOf(t, head); len(s.Mem) != 60 {
		t.Fatalf("%d in memory", len(s.Mem))
	}
	if _, code := impl.DoStore(storeOf(t, head), flushDo()); code != impl.StoreBig {
		t.Fatalf("a flush tells %d", code)
	}
	ahead := storeOf(t, head)
	got := answersBehind(t, head, []string{"event a@0 1", "query a@0", "tell", "all"})
	if want := []string{"full", "none", "told", "all 60"}; !slices.Equal(got, want) {
		t.Errorf("behind it: %q, want %q", got, want)
	}
	checkStore(t, "a full event", textOf(append(head, "event a@0 1")), ahead)
	got = answersBehind(t, head, []string{"spill", "event a@0 1", "pack 0", "all", "open"})
	if want := []string{"done", "full", "done", "all 60", "done"}; !slices.Equal(got, want) {
		t.Errorf("behind it: %q, want %q", got, want)
	}
}

// longEvents have keys that begin unlike and are so long that sixty entries of
// them are more than a table has.
func longEvents(many int) []string {
	var lines []string
	for i := range many {
		c := string("abcdefghijklmnopqrstuwxyABCDEFGHIJKLMNOP"[i])
		name := strings.Repeat(c, 12)
		lines = append(lines, fmt.Sprintf("event %s,%s=%s,z%s=%s,zz=%s@0 1", name, name, name, name[:11], name, name[:11]))
	}
	return lines
}

func TestPromise12TellingsThatAreFull(t *testing.T) {
	head := shortHead()
	if s := storeOf(t, head); len(s.Mem) != 24 || !slices.Equal(levelSizes(s), []int{12, 1, 0}) {
		t.Fatalf("%d in memory, %v on the levels", len(s.Mem), levelSizes(s))
	}
	// 36 windows are dirty: three batches of ten fit beside the 24 events, the
	// last of six just so.
	got := answersBehind(t, head, []string{"tell"})
	if !strings.HasPrefix(got[0], "told b@0#1 ") || strings.Count(got[0], "#1") != 36 {
		t.Errorf("36 are told as %q", got[0])
	}
	// With one event more it does not fit, and what is behind it is not done.
	head = append(head, "event d@0 1")
	got = answersBehind(t, head, []string{"tell", "version b@0", "version c@170", "version c@180", "version d@0", "all", "query d@0"})
	want := []string{"full", "version 1", "version 1", "version 0", "version 0", "all 67", "have n=1 s=1 lo=1 hi=1"}
	if !slices.Equal(got, want) {
		t.Errorf("behind it: %q, want %q", got, want)
	}
	// All stay dirty: it is full again, as nothing was let go.
	got = answersBehind(t, head, []string{"tell", "tell", "event d@0 1", "query d@0", "tell"})
	if want := []string{"full", "full", "ok", "have n=2 s=2 lo=1 hi=1", "full"}; !slices.Equal(got, want) {
		t.Errorf("behind it: %q, want %q", got, want)
	}
}

// Once the table of level 1 is out of the way there is room again: all are told,
// those that were put by the first try by one more.
func TestPromise12ToldBehindAFullTelling(t *testing.T) {
	want := "told"
	for i := range 12 {
		want += fmt.Sprintf(" b@%d#2", 10*i)
	}
	for i := range 24 {
		want += fmt.Sprintf(" c@%d#%d", 10*i, []int{2, 1}[i/18])
	}
	head := append(shortHead(), "event d@0 1")
	got := answersBehind(t, head, []string{"tell", "pack 0", "spill", "pack 1", "tell", "tell", "version d@0", "all"})
	if want := []string{"full", "done", "done", "done", want + " d@0#1", "told", "version 1", "all 74"}; !slices.Equal(got, want) {
		t.Errorf("behind it: %q, want %q", got, want)
	}
}

// The version of a window is kept at bytes that another window may have: what is
// answered then is what the chapter says of these bytes, with and without a store.
func TestPromise12WindowsAtTheBytesOfVersions(t *testing.T) {
	checkLines(t, "a version and a window",
		answered{"event cpu@0 5", "ok"},
		answered{"tell", "told cpu@0#1"},
		answered{"query vcpu@0", "have n=1 s=1 lo=1 hi=1"},
		answered{"all", "all 2"},
		answered{"event vcpu@3 6", "ok"},
		answered{"query vcpu@0", "have n=2 s=7 lo=1 hi=6"},
		answered{"version cpu@0", "version 7"},
		answered{"spill", "done"},
		answered{"event cpu@0 5", "ok"},
		answered{"tell", "told cpu@0#8 vcpu@0#1"},
		answered{"query vcpu@0", "have n=1 s=8 lo=8 hi=8"},
		answered{"pack 0", "done"},
		answered{"version vcpu@0", "version 1"},
		answered{"query vvcpu@0", "have n=1 s=1 lo=1 hi=1"},
		answered{"all", "all 3"},
		answered{"event vcpu@3 -20", "ok"},
		answered{"version cpu@0", "version -12"},
	)
}
