package tests

import (
	"math"
	"math/rand"
	"slices"
	"strings"
	"testing"

	"loop.example/g00150/impl"
)

type badEntry struct {
	what  string
	entry impl.Entry
}

// badEntries break one of the chapter's words each, by one where that is told.
func badEntries() []badEntry {
	var out []badEntry
	add := func(what string, e impl.Entry, change func(*impl.Entry)) {
		e.Agg = copyAgg(e.Agg)
		change(&e)
		out = append(out, badEntry{what, e})
	}
	good := []impl.Entry{putOf("k", 5, 3), joinOf("k", 5, 3), dropOf("k", 5)}
	for _, e := range good {
		for _, many := range []int{0, impl.MaxKeyBytes + 1, impl.MaxKeyBytes + 2, 256 + 1, 65536 + 1} {
			add("a key of so many bytes", e, func(e *impl.Entry) { e.Key = strings.Repeat("k", many) })
		}
		for _, n := range []int{0, -1, topSeq + 1, topSeq + 2, -topSeq, 1 << 32, 1<<32 + 1, math.MinInt, math.MinInt + 1, math.MaxInt, math.MaxInt - 1} {
			add("a Seq that is none", e, func(e *impl.Entry) { e.Seq = n })
		}
		for _, n := range []int{0, -1, 4, 5, 7, 255, 256 + 1, 1<<32 + 1, math.MinInt, math.MaxInt} {
			add("a Kind that is none", e, func(e *impl.Entry) { e.Kind = n })
		}
	}
	for _, c := range badAggs() {
		for _, e := range good[:2] {
			add(c.what, e, func(e *impl.Entry) { e.Agg = copyAgg(c.agg) })
		}
	}
	drop := good[2]
	for _, n := range []int{1, -1, 5, math.MinInt, math.MaxInt} {
		add("a drop with a Count", drop, func(e *impl.Entry) { e.Agg.Count = n })
		add("a drop with a Sum", drop, func(e *impl.Entry) { e.Agg.Sum = n })
		add("a drop with a Min", drop, func(e *impl.Entry) { e.Agg.Min = n })
		add("a drop with a Max", drop, func(e *impl.Entry) { e.Agg.Max = n })
		add("a drop with one in Hist", drop, func(e *impl.Entry) { e.Agg.Hist = []int{n} })
	}
	for _, many := range []int{1, 7, impl.Buckets, 9} {
		add("a drop with a Hist of noughts", drop, func(e *impl.Entry) { e.Agg.Hist = make([]int, many) })
	}
	add("a drop that is full", drop, func(e *impl.Entry) { e.Agg.Full = true })
	for _, a := range goodAggs() {
		add("a drop with a good agg", drop, func(e *impl.Entry) { e.Agg = copyAgg(a) })
	}
	add("a put turned into a drop", good[0], func(e *impl.Entry) { e.Kind = impl.KindDrop })
	add("a drop turned into a put", drop, func(e *impl.Entry) { e.Kind = impl.KindPut })
	add("a drop turned into a join", drop, func(e *impl.Entry) { e.Kind = impl.KindJoin })
	add("nothing at all", impl.Entry{}, func(*impl.Entry) {})
	return out
}

// checkRefused asks for the zero answer of every function that is given these entries.
func checkRefused(t *testing.T, what string, l []impl.Entry) {
	t.Helper()
	if impl.GoodEntries(l) {
		t.Errorf("%s: GoodEntries(%v) is true", what, l)
	}
	for _, e := range []impl.Entry{putOf("a", 1000, 1), joinOf("k", 1000, 1), dropOf("z", 1000)} {
		checkNotPut(t, what, l, e)
	}
	keys := []string{"a", "k", "z", ""}
	for _, e := range l {
		keys = append(keys, e.Key)
	}
	for _, key := range keys {
		if out, ok := impl.EntriesOf(l, key); ok || len(out) != 0 {
			t.Errorf("%s: EntriesOf(%v, %q) = %v, %v, want none and false", what, l, key, out, ok)
		}
	}
	checkNotFolded(t, what, l)
}

func checkNotPut(t *testing.T, what string, l []impl.Entry, e impl.Entry) {
	t.Helper()
	if out, ok := impl.PutEntry(l, e); ok || len(out) != 0 {
		t.Errorf("%s: PutEntry(%v, %v) = %v, %v, want none and false", what, l, e, out, ok)
	}
}

func checkNotFolded(t *testing.T, what string, l []impl.Entry) {
	t.Helper()
	if a, has, ok := impl.FoldEntries(l); ok || has || !sameAgg(a, impl.Agg{}) {
		t.Errorf("%s: FoldEntries(%v) = %v, %v, %v, want zero and false", what, l, a, has, ok)
	}
}

func TestPromise13EntriesThatAreNotGood(t *testing.T) {
	for _, c := range badEntries() {
		if impl.GoodEntry(c.entry) {
			t.Errorf("%s: GoodEntry(%v) is true", c.what, c.entry)
		}
		checkRefused(t, c.what, []impl.Entry{c.entry})
		checkRefused(t, c.what, []impl.Entry{putOf("A", 9, 1), c.entry})
		checkRefused(t, c.what, []impl.Entry{c.entry, putOf("\xff", 4, 1)})
		checkRefused(t, c.what, []impl.Entry{joinOf("k", 6, 1), c.entry, dropOf("k", 4)})
		checkRefused(t, c.what, []impl.Entry{putOf("k", 6, 1), c.entry, dropOf("k", 4)})
		for _, l := range [][]impl.Entry{nil, {putOf("k", 6, 1)}, {joinOf("a", 6, 1), joinOf("z", 7, 1)}} {
			checkNotPut(t, c.what, l, c.entry)
		}
	}
}

func TestPromise13EntriesOutOfOrder(t *testing.T) {
	for _, c := range []struct {
		what string
		l    []impl.Entry
	}{
		{"keys that fall", []impl.Entry{putOf("b", 1, 1), putOf("a", 2, 1)}},
		{"keys that fall, Seqs too", []impl.Entry{putOf("b", 2, 1), putOf("a", 1, 1)}},
		{"a key that comes again", []impl.Entry{putOf("a", 1, 1), putOf("b", 2, 1), putOf("a", 3, 1)}},
		{"a longer key ahead", []impl.Entry{putOf("ka", 1, 1), putOf("k", 2, 1)}},
		{"bytes above 127 ahead", []impl.Entry{putOf("\xff", 1, 1), putOf("z", 2, 1)}},
		{"the older one first", []impl.Entry{putOf("k", 1, 1), putOf("k", 2, 1)}},
		{"the older one last but one", []impl.Entry{putOf("k", 3, 1), putOf("k", 1, 1), putOf("k", 2, 1)}},
		{"one twice", []impl.Entry{putOf("k", 1, 1), putOf("k", 1, 1)}},
		{"a Seq twice in a key", []impl.Entry{putOf("k", 1, 1), joinOf("k", 1, 2)}},
		{"a Seq twice in two keys", []impl.Entry{putOf("j", 1, 1), putOf("k", 1, 1)}},
		{"a Seq twice, others between", []impl.Entry{putOf("j", 5, 1), putOf("k", 7, 1), putOf("k", 6, 1), putOf("l", 5, 1)}},
		{"the greatest Seq twice", []impl.Entry{dropOf("j", topSeq), dropOf("k", 1), dropOf("l", topSeq)}},
	} {
		checkRefused(t, c.what, c.l)
	}
}

func TestPromise13PutUpToMaxMem(t *testing.T) {
	r := rand.New(rand.NewSource(61))
	for range 5 {
		all := inOrder(drawEntries(r, impl.MaxMem+3, someKeys()))
		for many := impl.MaxMem - 2; many < len(all); many++ {
			l, e := all[:many], all[many]
			if many < impl.MaxMem {
				checkPut(t, l, e, all[:many+1])
				continue
			}
			checkNotPut(t, "too many", l, e)
			checkNotPut(t, "too many", l, dropOf("\x00\x00", 999999))
		}
	}
}

func TestPromise13PutASeqThatIsThere(t *testing.T) {
	l := []impl.Entry{putOf("b", 5, 1), joinOf("d", topSeq, 2), dropOf("d", 4), putOf("d", 1, 3), joinOf("f", 7, 4)}
	for _, is := range l {
		for _, key := range []string{"a", "b", "c", "d", "f", "g"} {
			checkNotPut(t, "a Seq that is there", l, putOf(key, is.Seq, 9))
			checkNotPut(t, "a Seq that is there", l, dropOf(key, is.Seq))
		}
		checkNotPut(t, "one that is there", l, is)
	}
}

func TestPromise13FoldOfTwoKeys(t *testing.T) {
	for _, l := range [][]impl.Entry{
		{joinOf("a", 1, 1), joinOf("b", 2, 1)},
		{putOf("a", 1, 1), joinOf("b", 2, 1)},
		{putOf("a", 2, 1), dropOf("b", 1)},
		{dropOf("a", 1), dropOf("b", 2)},
		{dropOf("k", 9), dropOf("k", 8), putOf("k\x00", 10, 1)},
		{joinOf("k", 9, 1), putOf("k", 8, 1), putOf("ka", 10, 1)},
		{joinOf("K", 9, 1), joinOf("k", 8, 1), joinOf("k", 7, 1)},
		{joinOf("a", 9, 1), joinOf("b", 8, 1), joinOf("c", 7, 1)},
	} {
		if !impl.GoodEntries(l) {
			t.Fatalf("%v are not good", l)
		}
		checkNotFolded(t, "two keys", l)
	}
}

func checkNoPath(t *testing.T, what string, keys []string, towers []int) {
	t.Helper()
	for _, key := range []string{"", "a", "k", "\xff", strings.Repeat("k", 1000)} {
		if gone, at, ok := impl.TowerPath(keys, towers, key); len(gone) != 0 || at != 0 || ok {
			t.Errorf("%s: TowerPath(%q, %v, %q) = %v, %d, %v, want zero and false", what, keys, towers, key, gone, at, ok)
		}
	}
}

func TestPromise13TowersThatAreNone(t *testing.T) {
	for _, many := range []int{1, 2, 5, 29, 30} {
		keys := ascending(many)
		for place := range many {
			for _, n := range []int{0, -1, impl.MaxTower + 1, impl.MaxTower + 2, -impl.MaxTower, 256 + 1, 1<<32 + 1, math.MinInt, math.MaxInt} {
				towers := slices.Repeat([]int{2}, many)
				towers[place] = n
				checkNoPath(t, "a tower that is none", keys, towers)
			}
		}
		for _, other := range []int{0, 1, many - 1, many + 1, many + 2, 2 * many, 1000} {
			if other != many {
				checkNoPath(t, "another number of towers", keys, slices.Repeat([]int{1}, other))
			}
		}
	}
	for _, many := range []int{1, 30, 31} {
		checkNoPath(t, "towers without keys", nil, slices.Repeat([]int{1}, many))
	}
}

func TestPromise13TowersUpToThirty(t *testing.T) {
	for _, many := range []int{31, 32, 60, 100} {
		checkNoPath(t, "too many keys", ascending(many), slices.Repeat([]int{1}, many))
	}
	checkNoPath(t, "too many keys, thirty towers", ascending(31), slices.Repeat([]int{1}, 30))
	for _, key := range []string{"", "a", "z"} {
		for _, towers := range [][]int{nil, {}} {
			if gone, at, ok := impl.TowerPath([]string{}, towers, key); len(gone) != 0 || at != 0 || !ok {
				t.Errorf("TowerPath of nothing = %v, %d, %v", gone, at, ok)
			}
		}
		checkPath(t, nil, nil, key)
		checkPath(t, ascending(30), slices.Repeat([]int{1, 2, 6}, 10), key)
	}
}

func TestPromise13TowersOfKeysThatAreNone(t *testing.T) {
	for _, keys := range [][]string{
		{""}, {"", "a"}, {"a", ""},
		{strings.Repeat("k", impl.MaxKeyBytes+1)},
		{"a", strings.Repeat("k", impl.MaxKeyBytes+1)},
		{strings.Repeat("k", impl.MaxKeyBytes+1), "l"},
		{"a", "a"}, {"b", "a"}, {"a", "b", "b"}, {"a", "c", "b"}, {"b", "a", "c"}, {"ab", "a"}, {"a", "B"}, {"\xff", "z"},
	} {
		for tower := 1; tower <= impl.MaxTower; tower++ {
			checkNoPath(t, "keys that are none", keys, slices.Repeat([]int{tower}, len(keys)))
		}
		towers := slices.Repeat([]int{1}, len(keys))
		towers[0] = impl.MaxTower
		checkNoPath(t, "keys that are none", keys, towers)
	}
	for place := 1; place < 30; place++ {
		keys := ascending(30)
		keys[place] = keys[place-1]
		checkNoPath(t, "two alike", keys, slices.Repeat([]int{3}, 30))
	}
}

// looseEntries have memory behind each length, and tells whether all of it stayed.
func looseEntries(l []impl.Entry) ([]impl.Entry, func() bool) {
	row := append(copyEntries(l), putOf("zz", 77, 7), impl.Entry{Key: "zz", Seq: -5})
	for i := range row {
		row[i].Agg.Hist = append(row[i].Agg.Hist, 7, 8, 9)
	}
	kept := copyEntries(row)
	out := row[:len(l)]
	for i := range out {
		hist := out[i].Agg.Hist
		out[i].Agg.Hist = hist[:len(hist)-3]
	}
	heads := slices.Clone(row)
	return out, func() bool {
		for i := range row {
			hist := heads[i].Agg.Hist
			if len(row[i].Agg.Hist) != len(hist) || row[i].Key != heads[i].Key || row[i].Seq != heads[i].Seq || row[i].Kind != heads[i].Kind {
				return false
			}
			if !slices.Equal(hist[:len(kept[i].Agg.Hist)], kept[i].Agg.Hist) || !sameAgg(row[i].Agg, heads[i].Agg) {
				return false
			}
		}
		return true
	}
}

// manyEntryLists are good and not good ones.
func manyEntryLists() [][]impl.Entry {
	r := rand.New(rand.NewSource(62))
	out := [][]impl.Entry{
		nil,
		{putOf("k", 1, 1)},
		{joinOf("k", 9, 1), joinOf("k", 8, 2), putOf("k", 7, 3), dropOf("k", 6)},
		{joinOf("k", 9, 1), joinOf("k", 8, 2), dropOf("k", 6)},
		{putOf("b", 1, 1), putOf("a", 2, 1)},
		{putOf("a", 1, 1), putOf("b", 1, 1)},
	}
	for range 20 {
		drawn := drawEntries(r, r.Intn(impl.MaxMem+2), someKeys())
		out = append(out, drawn, inOrder(drawn))
	}
	for i, c := range badEntries() {
		if i%20 == 0 {
			out = append(out, []impl.Entry{joinOf("k", 6, 1), c.entry})
		}
	}
	return out
}

func TestPromise13EntryArgumentsStay(t *testing.T) {
	for _, list := range manyEntryLists() {
		l, stayed := looseEntries(list)
		one, oneStayed := looseEntries([]impl.Entry{putOf("k", 500, 3), dropOf("a", 501), joinOf("z", 502, -1), {Key: "", Agg: noAgg()}})
		impl.GoodEntries(l)
		impl.FoldEntries(l)
		for _, e := range slices.Concat(l, one) {
			impl.GoodEntry(e)
			impl.PutEntry(l, e)
			impl.PutEntry(l[:len(l)/2], e)
			impl.EntriesOf(l, e.Key)
		}
		if !stayed() || !oneStayed() {
			t.Fatalf("written into %v", list)
		}
	}
}

func TestPromise13NothingBehindLengthsOfEntries(t *testing.T) {
	for _, list := range manyEntryLists() {
		l, _ := looseEntries(list)
		if impl.GoodEntries(l) != impl.GoodEntries(list) {
			t.Errorf("GoodEntries(%v) hangs on what lies behind", list)
		}
		e := putOf("kk", 999, 5)
		got, ok := impl.PutEntry(l, e)
		want, too := impl.PutEntry(list, e)
		if ok != too || !sameEntries(got, want) {
			t.Errorf("PutEntry(%v, %v) hangs on what lies behind", list, e)
		}
		checkNothingBehindEntries(t, got)
		for _, key := range append(someKeys(), "zz") {
			got, ok := impl.EntriesOf(l, key)
			want, too := impl.EntriesOf(list, key)
			if ok != too || !sameEntries(got, want) {
				t.Errorf("EntriesOf(%v, %q) hangs on what lies behind", list, key)
			}
			checkNothingBehindEntries(t, got)
		}
		a, has, ok := impl.FoldEntries(l)
		b, is, too := impl.FoldEntries(list)
		if !sameAgg(a, b) || has != is || ok != too {
			t.Errorf("FoldEntries(%v) hangs on what lies behind", list)
		}
		checkNothingBehindHist(t, a)
	}
}

func checkNothingBehindHist(t *testing.T, a impl.Agg) {
	t.Helper()
	for _, n := range a.Hist[len(a.Hist):cap(a.Hist)] {
		if n != 0 {
			t.Fatalf("behind the length of a Hist lies %d", n)
		}
	}
}

func checkNothingBehindEntries(t *testing.T, l []impl.Entry) {
	t.Helper()
	for _, e := range l {
		checkNothingBehindHist(t, e.Agg)
	}
	for _, e := range l[len(l):cap(l)] {
		if !sameEntry(e, impl.Entry{}) {
			t.Fatalf("behind the length lies %v", e)
		}
	}
}

// fillEntries writes into all the memory of an answer, one list after the other,
// and tells whether one's writing was seen in another.
func fillEntries(l []impl.Entry) bool {
	for i := range l {
		for j, hist := 0, l[i].Agg.Hist[:cap(l[i].Agg.Hist)]; j < len(hist); j++ {
			hist[j] = -100 - i
		}
	}
	apart := true
	for i := range l {
		for _, n := range l[i].Agg.Hist {
			apart = apart && n == -100-i
		}
	}
	all := l[:cap(l)]
	for i := range all {
		all[i] = impl.Entry{Key: "written", Seq: -i}
	}
	return apart
}

func TestPromise13EntryAnswersAreNew(t *testing.T) {
	r := rand.New(rand.NewSource(63))
	for range 60 {
		l := inOrder(drawEntries(r, 1+r.Intn(impl.MaxMem-1), []string{"a", "k", "z"}))
		kept := copyEntries(l)
		e := putOf("k", 3, 5)
		want, _ := impl.PutEntry(l, e)
		want = copyEntries(want)
		got, ok := impl.PutEntry(l, e)
		again, _ := impl.PutEntry(l, e)
		if !ok || !fillEntries(got) || !sameEntries(l, kept) || !sameEntry(e, putOf("k", 3, 5)) || !sameEntries(again, want) {
			t.Fatalf("PutEntry(%v, %v) shares memory", kept, e)
		}
		for _, key := range []string{"a", "k", "z"} {
			of, _ := impl.EntriesOf(l, key)
			twin, _ := impl.EntriesOf(l, key)
			if !fillEntries(of) || !sameEntries(l, kept) {
				t.Fatalf("EntriesOf(%v, %q) shares memory", kept, key)
			}
			checkFold(t, twin)
			a, _, _ := impl.FoldEntries(twin)
			b, _, _ := impl.FoldEntries(twin)
			told := copyAgg(b)
			before := copyEntries(twin)
			fillHist(a)
			if !sameEntries(twin, before) || !sameAgg(b, told) {
				t.Fatalf("FoldEntries(%v) shares memory", before)
			}
		}
		fillEntries(l)
		fillHist(e.Agg)
		if !sameEntries(again, want) {
			t.Fatal("PutEntry's answer changed with its arguments")
		}
	}
}

func TestPromise13EntriesThatShareAHist(t *testing.T) {
	one := manyOf(1, 5, 2)
	l := []impl.Entry{
		{Key: "a", Seq: 9, Kind: impl.KindPut, Agg: one},
		{Key: "a", Seq: 8, Kind: impl.KindJoin, Agg: one},
		{Key: "b", Seq: 7, Kind: impl.KindPut, Agg: one},
	}
	e := impl.Entry{Key: "a", Seq: 5, Kind: impl.KindJoin, Agg: one}
	if out, ok := impl.PutEntry(l, e); !ok || !fillEntries(out) {
		t.Error("two lists of PutEntry's answer share memory")
	}
	if out, ok := impl.EntriesOf(l, "a"); !ok || len(out) != 2 || !fillEntries(out) {
		t.Error("two lists of EntriesOf's answer share memory")
	}
	if !sameAgg(one, manyOf(1, 5, 2)) {
		t.Errorf("written into %v", one)
	}
}

func TestPromise13TowerArgumentsStay(t *testing.T) {
	keys := append(ascending(20), "\x00", "behind")
	towers := append(slices.Repeat([]int{1, 3, 2, 6}, 5), -4, 9)
	keptKeys, keptTowers := slices.Clone(keys), slices.Clone(towers)
	for many := range 21 {
		for _, key := range around(ascending(many)) {
			checkPath(t, keys[:many], towers[:many], key)
			gone, _, _ := impl.TowerPath(keys[:many], towers[:many], key)
			again, _, _ := impl.TowerPath(keys[:many], towers[:many], key)
			for _, n := range gone[len(gone):cap(gone)] {
				if n != 0 {
					t.Fatalf("behind the length lies %d", n)
				}
			}
			for i := range gone[:cap(gone)] {
				gone[:cap(gone)][i] = -77
			}
			if slices.Contains(again, -77) {
				t.Fatal("TowerPath's answers share memory")
			}
		}
		impl.TowerPath(keys[:many], towers, "k")
		impl.TowerPath(keys, towers[:many], "k")
	}
	if !slices.Equal(keys, keptKeys) || !slices.Equal(towers, keptTowers) {
		t.Errorf("written into %q, %v", keys, towers)
	}
}
