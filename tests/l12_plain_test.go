package tests

import (
	"fmt"
	"maps"
	"math/rand"
	"regexp"
	"slices"
	"strconv"
	"strings"
	"testing"

	"loop.example/g00150/impl"
)

func plainAggText(a impl.Agg) string {
	text := fmt.Sprintf("n=%d s=%d lo=%d hi=%d", a.Count, a.Sum, a.Min, a.Max)
	if a.Full {
		text += " full"
	}
	return text
}

// A plainEngine answers line by line by the chapter's words. Without a store it
// keeps all that was written at the bytes of a key; with one it asks the functions
// of chapter 10, and counts what was refused.
type plainEngine struct {
	mark   int
	dirty  []impl.Key
	lists  map[string][]impl.Agg
	stored bool
	store  impl.Store
	again  int
	packs  int
}

func plainAlone() *plainEngine {
	return &plainEngine{lists: map[string][]impl.Agg{}}
}

func plainStored() *plainEngine {
	s, _ := impl.NewStore(impl.MaxQuota)
	return &plainEngine{stored: true, store: s}
}

func (e *plainEngine) do(d impl.Do) int {
	next, code := impl.DoStore(e.store, d)
	e.store = next
	return code
}

func (e *plainEngine) put(changes []impl.Change) bool {
	if !e.stored {
		for _, c := range changes {
			if c.Kind == impl.KindPut {
				e.lists[c.Key] = nil
			}
			e.lists[c.Key] = append(e.lists[c.Key], c.Agg)
		}
		return true
	}
	batch := impl.Do{Kind: impl.DoBatch, Changes: changes}
	code := e.do(batch)
	if code != impl.StoreMem {
		return code == impl.StoreOk
	}
	e.again++
	if e.do(flushDo()) != impl.StoreOk {
		e.packs++
		e.do(packDo(0))
		e.do(flushDo())
	}
	return e.do(batch) == impl.StoreOk
}

func (e *plainEngine) get(key string) (impl.Agg, bool) {
	if !e.stored {
		return plainJoin(e.lists[key]...), len(e.lists[key]) > 0
	}
	a, has, _ := impl.GetKey(e.store, key)
	return a, has
}

func (e *plainEngine) all() int {
	if !e.stored {
		return len(e.lists)
	}
	l, _ := impl.ScanStore(e.store)
	return len(l)
}

func (e *plainEngine) move(line string) {
	if !e.stored {
		return
	}
	switch line {
	case "spill":
		e.do(flushDo())
	case "pack 0":
		e.do(packDo(0))
	case "pack 1":
		e.do(packDo(1))
	case "open":
		e.store, _ = impl.OpenStore(e.store.Files)
	}
}

func versionKey(k impl.Key) string {
	return "v" + string(plainForm(k))
}

func (e *plainEngine) version(k impl.Key) int {
	a, has := e.get(versionKey(k))
	if !has {
		return 0
	}
	return a.Sum
}

var (
	eventLine = regexp.MustCompile(`^event ([^ ]+) (0|-?[1-9][0-9]{0,9})$`)
	markLine  = regexp.MustCompile(`^mark (0|[1-9][0-9]{0,9})$`)
	askLine   = regexp.MustCompile(`^(query|version) ([^ ]+)$`)
	moveLine  = regexp.MustCompile(`^(spill|pack 0|pack 1|open)$`)
)

func (e *plainEngine) event(word string, number string) string {
	k, ok := plainKey(word)
	value, _ := strconv.Atoi(number)
	if !ok || value < -impl.MaxNumber || value > impl.MaxNumber {
		return "what"
	}
	if k.Start < e.mark-50 {
		return "late"
	}
	k.Start = k.Start / 10 * 10
	if !e.put([]impl.Change{{Key: string(plainForm(k)), Kind: impl.KindJoin, Agg: manyOf(1, value, plainBucket(value))}}) {
		return "full"
	}
	same := func(other impl.Key) bool { return sameKey(other, k) }
	e.dirty = append(slices.DeleteFunc(e.dirty, same), k)
	return "ok"
}

func (e *plainEngine) tell() string {
	answer := "told"
	var changes []impl.Change
	slices.SortFunc(e.dirty, impl.CompareKeys)
	for _, k := range e.dirty {
		n := e.version(k) + 1
		if n > impl.MaxNumber {
			return "full"
		}
		answer += " " + plainKeyText(k) + "#" + strconv.Itoa(n)
		changes = append(changes, impl.Change{Key: versionKey(k), Kind: impl.KindPut, Agg: manyOf(1, n, plainBucket(n))})
	}
	for len(changes) > 0 {
		many := min(10, len(changes))
		if !e.put(changes[:many]) {
			return "full"
		}
		changes = changes[many:]
	}
	e.dirty = nil
	return answer
}

func plainKeyText(k impl.Key) string {
	var tags strings.Builder
	for _, tag := range k.Tags {
		fmt.Fprintf(&tags, ",%s=%s", tag.Name, tag.Value)
	}
	return fmt.Sprintf("%s%s@%d", k.Metric, tags.String(), k.Start)
}

func (e *plainEngine) ask(word string, text string) string {
	k, ok := plainKey(text)
	if !ok {
		return "what"
	}
	if word == "version" {
		return "version " + strconv.Itoa(e.version(k))
	}
	a, has := e.get(string(plainForm(k)))
	if !has {
		return "none"
	}
	return "have " + plainAggText(a)
}

func (e *plainEngine) answer(line string) string {
	if m := eventLine.FindStringSubmatch(line); m != nil {
		return e.event(m[1], m[2])
	}
	if m := markLine.FindStringSubmatch(line); m != nil {
		n, _ := strconv.Atoi(m[1])
		if n < e.mark || n > impl.MaxTime {
			return "no"
		}
		e.mark = n
		return "ok"
	}
	if m := askLine.FindStringSubmatch(line); m != nil {
		return e.ask(m[1], m[2])
	}
	if moveLine.MatchString(line) {
		e.move(line)
		return "done"
	}
	switch line {
	case "tell":
		return e.tell()
	case "all":
		return "all " + strconv.Itoa(e.all())
	}
	return "what"
}

func (e *plainEngine) play(lines []string) []string {
	var out []string
	for _, line := range lines {
		out = append(out, e.answer(line))
	}
	return out
}

func textOf(lines []string) string {
	text := ""
	for _, line := range lines {
		text += line + "\n"
	}
	return text
}

// checkScript holds RunWindows, ModelWindows and StoreOfText to the chapter's
// words; it tells whether something was full.
func checkScript(t *testing.T, what string, lines []string) bool {
	t.Helper()
	text := textOf(lines)
	if len(text) > impl.MaxScript || len(lines) > impl.MaxLines {
		t.Fatalf("%s: %d bytes in %d lines are no script", what, len(text), len(lines))
	}
	alone, stored := plainAlone(), plainStored()
	model, run := textOf(alone.play(lines)), textOf(stored.play(lines))
	checkAnswers(t, what+": RunWindows", lines, impl.RunWindows(text), run)
	full := slices.Contains(strings.Split(run, "\n"), "full")
	if !full {
		checkAnswers(t, what+": ModelWindows", lines, impl.ModelWindows(text), run)
		checkAnswers(t, what+": the plain model", lines, model, run)
		checkKept(t, what, text, alone)
	}
	checkStore(t, what, text, stored.store)
	return full
}

func checkAnswers(t *testing.T, what string, lines []string, got string, want string) {
	t.Helper()
	if got == want {
		return
	}
	g, w := strings.Split(got, "\n"), strings.Split(want, "\n")
	for i, line := range lines {
		if i >= len(g) || i >= len(w) || g[i] != w[i] {
			t.Fatalf("%s: line %d of %q is %q, answered\n%q, want\n%q", what, i, lines, line, got, want)
		}
	}
	t.Fatalf("%s of %q answered\n%q, want\n%q", what, lines, got, want)
}

// checkStore holds StoreOfText to one store; it is good, and opens as itself.
func checkStore(t *testing.T, what string, text string, want impl.Store) {
	t.Helper()
	s, ok := impl.StoreOfText(text)
	if !ok || !sameStore(s, want) {
		t.Fatalf("%s: StoreOfText(%q) = %v, %v, want %v", what, text, s, ok, want)
	}
	if !impl.GoodStore(s) {
		t.Fatalf("%s: StoreOfText(%q) is not good: %v", what, text, s)
	}
	if opened, code := impl.OpenStore(s.Files); code != impl.StoreOk || !sameStore(opened, s) {
		t.Fatalf("%s: StoreOfText(%q) opens as %v, %d", what, text, opened, code)
	}
}

// checkKept holds the keys and aggs of StoreOfText to what the lists have.
func checkKept(t *testing.T, what string, text string, e *plainEngine) {
	t.Helper()
	s, _ := impl.StoreOfText(text)
	l, ok := impl.ScanStore(s)
	keys := slices.Sorted(maps.Keys(e.lists))
	if !ok || len(l) != len(keys) {
		t.Fatalf("%s: the store of %q has %d keys, want %d", what, text, len(l), len(keys))
	}
	for i, key := range keys {
		if l[i].Key != key || !sameAgg(l[i].Agg, plainJoin(e.lists[key]...)) {
			t.Fatalf("%s: the store of %q has %v at %q", what, text, l[i], key)
		}
	}
}

// A scriptDraw draws lines: keys come from few metrics, times from around the
// mark less the horizon.
type scriptDraw struct {
	r       *rand.Rand
	metrics []string
	mark    int
	wide    int
	moves   int
}

func (d *scriptDraw) time() int {
	low := max(0, d.mark-50)
	switch d.r.Intn(8) {
	case 0:
		return low
	case 1:
		return max(0, low-1)
	case 2:
		return low / 10 * 10
	case 3:
		return low/10*10 + 9
	}
	return min(impl.MaxTime, low+d.r.Intn(d.wide))
}

func (d *scriptDraw) key(time int) string {
	metric := d.metrics[d.r.Intn(len(d.metrics))]
	return metric + "@" + strconv.Itoa(time)
}

func (d *scriptDraw) value() string {
	edges := []string{"-1000000000", "1000000000", "0", "-1", "9", "10", "99", "100", "-0", "+1", "007", "1000000001", "-1000000001", "x", "", "12345678901"}
	if d.r.Intn(5) == 0 {
		return edges[d.r.Intn(len(edges))]
	}
	return strconv.Itoa(d.r.Intn(400) - 100)
}

func (d *scriptDraw) line() string {
	if d.r.Intn(100) < d.moves {
		return []string{"spill", "spill", "pack 0", "pack 0", "pack 1", "open"}[d.r.Intn(6)]
	}
	switch d.r.Intn(20) {
	case 0, 1:
		n := d.mark + []int{0, 1, 7, 30, -1}[d.r.Intn(5)]
		if n > d.mark {
			d.mark = n
		}
		return "mark " + strconv.Itoa(n)
	case 2, 3:
		return "tell"
	case 4, 5:
		return "query " + d.key(d.time()/10*10)
	case 6:
		return "version " + d.key(d.time()/10*10)
	case 7:
		return "all"
	case 8:
		return []string{"", " ", "tell ", " tell", "pack 2", "pack", "Tell", "query  a@0", "fly", "open open", "tell\t", "alle"}[d.r.Intn(12)]
	}
	return "event " + d.key(d.time()) + " " + d.value()
}

func (d *scriptDraw) lines(many int) []string {
	var out []string
	room := impl.MaxScript
	for range many {
		line := d.line()
		room -= len(line) + 1
		if room < 0 {
			break
		}
		out = append(out, line)
	}
	return out
}
