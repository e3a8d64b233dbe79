package tests

import (
	"math/rand"
	"slices"
	"sort"
	"strings"
	"testing"

	"loop.example/g00150/impl"
)

const topSeq = 1000000000

func putOf(key string, seq int, value int) impl.Entry {
	return impl.Entry{Key: key, Seq: seq, Kind: impl.KindPut, Agg: manyOf(1, value, plainBucket(value))}
}

func joinOf(key string, seq int, value int) impl.Entry {
	return impl.Entry{Key: key, Seq: seq, Kind: impl.KindJoin, Agg: manyOf(1, value, plainBucket(value))}
}

func dropOf(key string, seq int) impl.Entry {
	return impl.Entry{Key: key, Seq: seq, Kind: impl.KindDrop}
}

func sameEntry(a impl.Entry, b impl.Entry) bool {
	return a.Key == b.Key && a.Seq == b.Seq && a.Kind == b.Kind && sameAgg(a.Agg, b.Agg)
}

func sameEntries(a []impl.Entry, b []impl.Entry) bool {
	return slices.EqualFunc(a, b, sameEntry)
}

func copyEntries(l []impl.Entry) []impl.Entry {
	var out []impl.Entry
	for _, e := range l {
		e.Agg = copyAgg(e.Agg)
		out = append(out, e)
	}
	return out
}

// inOrder sorts by the chapter's words: by Key, of one Key the greatest Seq first.
func inOrder(l []impl.Entry) []impl.Entry {
	out := copyEntries(l)
	sort.SliceStable(out, func(i int, j int) bool {
		if out[i].Key != out[j].Key {
			return out[i].Key < out[j].Key
		}
		return out[i].Seq > out[j].Seq
	})
	return out
}

func checkPut(t *testing.T, l []impl.Entry, e impl.Entry, want []impl.Entry) []impl.Entry {
	t.Helper()
	out, ok := impl.PutEntry(l, e)
	if !ok || !sameEntries(out, want) {
		t.Fatalf("PutEntry(%v, %v) = %v, %v, want %v", l, e, out, ok, want)
	}
	if !impl.GoodEntries(out) {
		t.Fatalf("PutEntry(%v, %v) = %v, which are not good", l, e, out)
	}
	return out
}

func drawEntry(r *rand.Rand, key string, seq int) impl.Entry {
	switch r.Intn(4) {
	case 0:
		return dropOf(key, seq)
	case 1:
		return impl.Entry{Key: key, Seq: seq, Kind: impl.KindPut, Agg: drawAgg(r)}
	}
	return impl.Entry{Key: key, Seq: seq, Kind: impl.KindJoin, Agg: drawAgg(r)}
}

// drawEntries are so many of no order, of as many keys as there are, no Seq twice.
func drawEntries(r *rand.Rand, many int, keys []string) []impl.Entry {
	var out []impl.Entry
	for _, seq := range r.Perm(many) {
		out = append(out, drawEntry(r, keys[r.Intn(len(keys))], 1+seq*7))
	}
	return out
}

// someKeys are not in order; one begins as another, some have bytes that are no letters.
func someKeys() []string {
	return []string{"k", "ka", "b", "kb", "k\x00", "\x00", "\xff", "K", "\xff\xff", "é", strings.Repeat("k", impl.MaxKeyBytes), "kaa", " "}
}

func TestPromise5PutInPlace(t *testing.T) {
	b5, d9, d4, d2, f7 := putOf("b", 5, 1), joinOf("d", 9, 2), dropOf("d", 4), putOf("d", 2, 3), joinOf("f", 7, 4)
	l := []impl.Entry{b5, d9, d4, d2, f7}
	for _, c := range []struct {
		what  string
		key   string
		seq   int
		place int
	}{
		{"ahead of all", "a", 1, 0},
		{"ahead of all, the greatest Seq", "a", 100, 0},
		{"the least key there is", "\x00", 6, 0},
		{"a beginning of the first", "B", 6, 0},
		{"the first key, newer", "b", 6, 0},
		{"the first key, older", "b", 3, 1},
		{"between two keys", "c", 6, 1},
		{"between two keys, the oldest", "c", 1, 1},
		{"longer than a key", "b\x00", 6, 1},
		{"among its own, the newest", "d", 10, 1},
		{"among its own, the second", "d", 8, 2},
		{"among its own, the third", "d", 3, 3},
		{"among its own, the oldest", "d", 1, 4},
		{"longer than its own", "da", 100, 4},
		{"the last key, newer", "f", 8, 4},
		{"the last key, older", "f", 6, 5},
		{"behind all", "g", 100, 5},
		{"behind all, the oldest", "\xff", 1, 5},
	} {
		for _, e := range []impl.Entry{putOf(c.key, c.seq, -3), joinOf(c.key, c.seq, 12), dropOf(c.key, c.seq)} {
			out, ok := impl.PutEntry(l, e)
			if want := slices.Insert(slices.Clone(l), c.place, e); !ok || !sameEntries(out, want) {
				t.Errorf("%s: PutEntry of %v = %v, %v, want %v", c.what, e, out, ok, want)
			}
			checkPut(t, nil, e, []impl.Entry{e})
			checkPut(t, []impl.Entry{}, e, []impl.Entry{e})
		}
	}
}

func TestPromise5PutAtEveryPlace(t *testing.T) {
	r := rand.New(rand.NewSource(51))
	for many := 1; many <= impl.MaxMem; many++ {
		all := inOrder(drawEntries(r, many, someKeys()))
		for place := range all {
			rest := copyEntries(slices.Delete(slices.Clone(all), place, place+1))
			checkPut(t, rest, all[place], all)
		}
	}
}

func TestPromise5PutInAnyOrder(t *testing.T) {
	list := []impl.Entry{putOf("a", 3, 1), joinOf("b", 9, 2), joinOf("b", 5, 3), dropOf("b", 1), putOf("ba", 4, 5)}
	eachOrder(list, 0, func(order []impl.Entry) {
		var l []impl.Entry
		for i, e := range order {
			l = checkPut(t, l, e, inOrder(order[:i+1]))
		}
	})
	r := rand.New(rand.NewSource(52))
	for range 20 {
		drawn := drawEntries(r, impl.MaxMem, someKeys())
		var l []impl.Entry
		for i, e := range drawn {
			l = checkPut(t, l, e, inOrder(drawn[:i+1]))
		}
	}
}

func TestPromise5PutKeepsWholeAggs(t *testing.T) {
	var list []impl.Entry
	for i, a := range goodAggs() {
		list = append(list, impl.Entry{Key: "k", Seq: 1 + i, Kind: impl.KindPut, Agg: a}, impl.Entry{Key: "l", Seq: 100 + i, Kind: impl.KindJoin, Agg: a})
	}
	var l []impl.Entry
	for i, e := range list {
		l = checkPut(t, l, e, inOrder(list[:i+1]))
	}
}

func TestPromise5GoodEntryAtItsLimits(t *testing.T) {
	for _, many := range []int{1, 2, 12, 139, impl.MaxKeyBytes} {
		for _, c := range []string{"k", "\x00", "\xff"} {
			key := strings.Repeat(c, many)
			for _, seq := range []int{1, 2, 77, topSeq - 1, topSeq} {
				for _, e := range []impl.Entry{putOf(key, seq, 5), joinOf(key, seq, -5), dropOf(key, seq)} {
					if !impl.GoodEntry(e) || !impl.GoodEntries([]impl.Entry{e}) {
						t.Errorf("%v is not good", e)
					}
				}
			}
		}
	}
	for _, a := range goodAggs() {
		for _, kind := range []int{impl.KindPut, impl.KindJoin} {
			if e := (impl.Entry{Key: "k", Seq: 1, Kind: kind, Agg: a}); !impl.GoodEntry(e) {
				t.Errorf("%v is not good", e)
			}
		}
	}
	empty := dropOf("k", 1)
	empty.Agg.Hist = []int{}
	if !impl.GoodEntry(empty) {
		t.Error("a drop with an empty Hist is not good")
	}
}

func TestPromise5GoodInOneOrderAlone(t *testing.T) {
	for _, list := range [][]impl.Entry{
		{putOf("a", 3, 1), joinOf("b", 9, 2), joinOf("b", 5, 3), dropOf("b", 1), putOf("ba", 4, 5)},
		{dropOf("k", 5), dropOf("k", 4), dropOf("k", 3), dropOf("k", 2), dropOf("k", 1)},
		{dropOf("A", 1), dropOf("a", 2), dropOf("a\x00", 3), dropOf("aa", 4), dropOf("\xff", 5)},
		{putOf("a", 5, 1), putOf("b", 4, 1), putOf("c", 3, 1), putOf("d", 2, 1), putOf("e", 1, 1)},
		{joinOf("k", topSeq, 1), putOf("k", topSeq-1, 1), joinOf("k", 2, 1), putOf("k", 1, 1), joinOf("l", topSeq/2, 1)},
	} {
		told := slices.Clone(list)
		eachOrder(list, 0, func(order []impl.Entry) {
			if want := sameEntries(order, told); impl.GoodEntries(order) != want {
				t.Errorf("GoodEntries(%v) is not %v", order, want)
			}
		})
	}
	if !impl.GoodEntries(nil) || !impl.GoodEntries([]impl.Entry{}) {
		t.Error("no entries are not good")
	}
}

func TestPromise5NoSeqTwice(t *testing.T) {
	r := rand.New(rand.NewSource(53))
	for range 30 {
		l := inOrder(drawEntries(r, 2+r.Intn(20), someKeys()))
		if !impl.GoodEntries(l) {
			t.Fatalf("%v are not good", l)
		}
		for i := range l {
			for j := range l {
				twice := copyEntries(l)
				twice[i].Seq = twice[j].Seq
				if twice = inOrder(twice); i != j && impl.GoodEntries(twice) {
					t.Fatalf("a Seq twice, and good: %v", twice)
				}
			}
		}
	}
}

func TestPromise5AnyNumberIsGood(t *testing.T) {
	r := rand.New(rand.NewSource(54))
	for _, many := range []int{impl.MaxMem - 1, impl.MaxMem, impl.MaxMem + 1, 300, 301, 5000} {
		l := inOrder(drawEntries(r, many, someKeys()))
		if !impl.GoodEntries(l) {
			t.Errorf("%d entries are not good", many)
		}
		for _, key := range []string{"k", "ka", "none"} {
			checkEntriesOf(t, l, key)
		}
		var one []impl.Entry
		for i := range many {
			one = append(one, joinOf("k", many-i, i%10))
		}
		checkFold(t, one)
	}
}

func checkEntriesOf(t *testing.T, l []impl.Entry, key string) {
	t.Helper()
	var want []impl.Entry
	for _, e := range l {
		if e.Key == key {
			want = append(want, e)
		}
	}
	if out, ok := impl.EntriesOf(l, key); !ok || !sameEntries(out, want) {
		t.Fatalf("EntriesOf(%v, %q) = %v, %v, want %v", l, key, out, ok, want)
	}
}

func TestPromise5EntriesOfKeys(t *testing.T) {
	l := []impl.Entry{putOf("b", 5, 1), joinOf("d", 9, 2), dropOf("d", 4), putOf("d", 2, 3), joinOf("f", 7, 4)}
	if out, ok := impl.EntriesOf(l, "d"); !ok || !sameEntries(out, l[1:4]) {
		t.Errorf("EntriesOf d = %v, %v", out, ok)
	}
	if out, ok := impl.EntriesOf(l, "b"); !ok || !sameEntries(out, l[:1]) {
		t.Errorf("EntriesOf b = %v, %v", out, ok)
	}
	if out, ok := impl.EntriesOf(l, "f"); !ok || !sameEntries(out, l[4:]) {
		t.Errorf("EntriesOf f = %v, %v", out, ok)
	}
	for _, key := range []string{"a", "c", "e", "g", "D", "dd", "d\x00", "\x00d", "", " ", strings.Repeat("d", 1000)} {
		for _, l := range [][]impl.Entry{l, nil, {}} {
			if out, ok := impl.EntriesOf(l, key); !ok || len(out) != 0 {
				t.Errorf("EntriesOf(%v, %q) = %v, %v, want none and true", l, key, out, ok)
			}
		}
	}
	r := rand.New(rand.NewSource(55))
	for range 100 {
		l := inOrder(drawEntries(r, r.Intn(40), someKeys()))
		for _, key := range append(someKeys(), "", "kab", "a", "z") {
			checkEntriesOf(t, l, key)
		}
	}
}

// checkFold asks for what plainJoin makes of those ahead of what is hidden.
func checkFold(t *testing.T, l []impl.Entry) {
	t.Helper()
	var aggs []impl.Agg
	for _, e := range l {
		if e.Kind != impl.KindDrop {
			aggs = append(aggs, e.Agg)
		}
		if e.Kind != impl.KindJoin {
			break
		}
	}
	var want impl.Agg
	if len(aggs) > 0 {
		want = plainJoin(aggs...)
	}
	a, has, ok := impl.FoldEntries(l)
	if !ok || has != (len(aggs) > 0) || !sameAgg(a, want) {
		t.Fatalf("FoldEntries(%v) = %v, %v, %v, want %v, %v", l, a, has, ok, want, len(aggs) > 0)
	}
}

func TestPromise5FoldOrdinary(t *testing.T) {
	six := impl.Agg{Count: 3, Sum: 21, Min: 2, Max: 12, Hist: []int{0, 0, 2, 1, 0, 0, 0, 0}}
	nine := impl.Agg{Count: 2, Sum: 9, Min: 2, Max: 7, Hist: []int{0, 0, 2, 0, 0, 0, 0, 0}}
	two, join7, join12 := joinOf("k", 9, 2), joinOf("k", 8, 7), joinOf("k", 7, 12)
	for _, c := range []struct {
		what string
		l    []impl.Entry
		want impl.Agg
		has  bool
	}{
		{"none", nil, impl.Agg{}, false},
		{"no entries", []impl.Entry{}, impl.Agg{}, false},
		{"one join", []impl.Entry{two}, two.Agg, true},
		{"one put", []impl.Entry{putOf("k", 9, 2)}, two.Agg, true},
		{"one drop", []impl.Entry{dropOf("k", 9)}, impl.Agg{}, false},
		{"joins alone", []impl.Entry{two, join7, join12}, six, true},
		{"joins up to a put", []impl.Entry{two, join7, putOf("k", 6, 12)}, six, true},
		{"a put, and what is older", []impl.Entry{two, putOf("k", 8, 7), join12}, nine, true},
		{"a put, and a put that is older", []impl.Entry{two, putOf("k", 8, 7), putOf("k", 7, 12)}, nine, true},
		{"a put, and a drop that is older", []impl.Entry{two, putOf("k", 8, 7), dropOf("k", 7)}, nine, true},
		{"joins up to a drop", []impl.Entry{two, join7, dropOf("k", 6)}, nine, true},
		{"a drop, and what is older", []impl.Entry{two, join7, dropOf("k", 6), putOf("k", 5, 12), joinOf("k", 4, 1)}, nine, true},
		{"a drop first", []impl.Entry{dropOf("k", 10), two, join7}, impl.Agg{}, false},
		{"a drop first, then a put", []impl.Entry{dropOf("k", 10), putOf("k", 9, 2)}, impl.Agg{}, false},
		{"a put first", []impl.Entry{putOf("k", 10, 2), join7, join12}, two.Agg, true},
		{"a put of nothing", []impl.Entry{{Key: "k", Seq: 1, Kind: impl.KindPut, Agg: noAgg()}}, noAgg(), true},
		{"a join of nothing", []impl.Entry{{Key: "k", Seq: 1, Kind: impl.KindJoin, Agg: noAgg()}}, noAgg(), true},
		{"a join of nothing onto a drop", []impl.Entry{{Key: "k", Seq: 2, Kind: impl.KindJoin, Agg: noAgg()}, dropOf("k", 1)}, noAgg(), true},
	} {
		if a, has, ok := impl.FoldEntries(c.l); !ok || has != c.has || !sameAgg(a, c.want) {
			t.Errorf("%s: FoldEntries(%v) = %v, %v, %v, want %v, %v", c.what, c.l, a, has, ok, c.want, c.has)
		}
	}
}

func TestPromise5FoldEdges(t *testing.T) {
	for _, a := range goodAggs() {
		for _, b := range goodAggs() {
			for _, kind := range []int{impl.KindPut, impl.KindJoin} {
				checkFold(t, []impl.Entry{{Key: "k", Seq: 2, Kind: impl.KindJoin, Agg: a}, {Key: "k", Seq: 1, Kind: kind, Agg: b}})
			}
		}
		checkFold(t, []impl.Entry{{Key: "k", Seq: 2, Kind: impl.KindPut, Agg: a}, dropOf("k", 1)})
		checkFold(t, []impl.Entry{{Key: "k", Seq: 2, Kind: impl.KindJoin, Agg: a}, dropOf("k", 1)})
	}
}

func TestPromise5FoldEveryRowOfKinds(t *testing.T) {
	r := rand.New(rand.NewSource(56))
	kinds := []int{impl.KindPut, impl.KindDrop, impl.KindJoin}
	for many := range 6 {
		rows := 1
		for range many {
			rows *= len(kinds)
		}
		for row := range rows {
			var l []impl.Entry
			for i := range many {
				e := impl.Entry{Key: "k", Seq: 3 * (many - i), Kind: kinds[row%len(kinds)]}
				if e.Kind != impl.KindDrop {
					e.Agg = drawAgg(r)
				}
				l, row = append(l, e), row/len(kinds)
			}
			checkFold(t, l)
		}
	}
}

func TestPromise5FoldHangsOnNothingHidden(t *testing.T) {
	r := rand.New(rand.NewSource(57))
	for range 300 {
		var ahead []impl.Entry
		for i := range r.Intn(4) {
			ahead = append(ahead, joinOf("k", 99-i, r.Intn(50)))
		}
		for _, end := range []impl.Entry{putOf("k", 50, 3), dropOf("k", 50)} {
			alone := append(copyEntries(ahead), end)
			a, has, ok := impl.FoldEntries(alone)
			hidden := slices.Clone(alone)
			for i := range r.Intn(5) {
				hidden = append(hidden, drawEntry(r, "k", 40-i))
			}
			b, is, too := impl.FoldEntries(hidden)
			if !ok || !too || has != is || !sameAgg(a, b) {
				t.Fatalf("FoldEntries(%v) = %v, %v, %v; with what is hidden %v, %v, %v", alone, a, has, ok, b, is, too)
			}
		}
	}
}

func TestPromise5WhatIsPutIsFolded(t *testing.T) {
	r := rand.New(rand.NewSource(58))
	keys := []string{"a", "ab", "b"}
	for range 60 {
		var l []impl.Entry
		for _, e := range drawEntries(r, 1+r.Intn(30), keys) {
			l, _ = impl.PutEntry(l, e)
		}
		for _, key := range append(keys, "c") {
			of, ok := impl.EntriesOf(l, key)
			if !ok {
				t.Fatalf("EntriesOf(%v, %q) is refused", l, key)
			}
			checkFold(t, of)
		}
	}
}

// plainPath links each way by itself, and walks by these links alone.
func plainPath(keys []string, towers []int, key string) []int {
	const front = -1
	var gone []int
	at := front
	for way := impl.MaxTower; way > 0; way-- {
		behind := map[int]int{}
		last := front
		for i := range keys {
			if towers[i] >= way {
				behind[last], last = i, i
			}
		}
		for {
			next, is := behind[at]
			if !is || keys[next] >= key {
				break
			}
			gone, at = append(gone, next), next
		}
	}
	return gone
}

func checkPath(t *testing.T, keys []string, towers []int, key string) {
	t.Helper()
	place := 0
	for place < len(keys) && keys[place] < key {
		place++
	}
	want := plainPath(keys, towers, key)
	gone, at, ok := impl.TowerPath(keys, towers, key)
	if !ok || at != place || !slices.Equal(gone, want) {
		t.Fatalf("TowerPath(%q, %v, %q) = %v, %d, %v, want %v, %d", keys, towers, key, gone, at, ok, want, place)
	}
	if !slices.IsSorted(gone) || (len(gone) == 0) != (at == 0) || len(gone) > 0 && gone[len(gone)-1] != at-1 {
		t.Fatalf("TowerPath(%q, %v, %q) = %v, %d: not up to it", keys, towers, key, gone, at)
	}
}

func TestPromise5TowerPathOrdinary(t *testing.T) {
	keys, towers := strings.Split("abcdefg", ""), []int{1, 2, 1, 3, 1, 2, 1}
	for _, c := range []struct {
		key   string
		want  []int
		place int
	}{
		{"", nil, 0},
		{"A", nil, 0},
		{"a", nil, 0},
		{"aa", []int{0}, 1},
		{"b", []int{0}, 1},
		{"bb", []int{1}, 2},
		{"c", []int{1}, 2},
		{"cc", []int{1, 2}, 3},
		{"d", []int{1, 2}, 3},
		{"d\x00", []int{3}, 4},
		{"e", []int{3}, 4},
		{"f", []int{3, 4}, 5},
		{"g", []int{3, 5}, 6},
		{"h", []int{3, 5, 6}, 7},
		{strings.Repeat("\xff", 1000), []int{3, 5, 6}, 7},
	} {
		if gone, at, ok := impl.TowerPath(keys, towers, c.key); !ok || at != c.place || !slices.Equal(gone, c.want) {
			t.Errorf("TowerPath to %q = %v, %d, %v, want %v, %d", c.key, gone, at, ok, c.want, c.place)
		}
	}
}

// ascending are keys with room between any two.
func ascending(many int) []string {
	var keys []string
	for i := range many {
		keys = append(keys, string([]byte{byte('a' + i/5), byte('a' + 2*(i%5))}))
	}
	return keys
}

// around are all keys, one beside each, and some that are ahead of all and behind all.
func around(keys []string) []string {
	out := []string{"", "\x00", "a", "zz", "\xff\xff\xff"}
	for _, key := range keys {
		out = append(out, key, key+"\x00", key[:len(key)-1], key[:len(key)-1]+string([]byte{key[len(key)-1] - 1}), key+key)
	}
	return out
}

func TestPromise5TowersAlike(t *testing.T) {
	for many := range 31 {
		keys := ascending(many)
		for tower := 1; tower <= impl.MaxTower; tower++ {
			towers := slices.Repeat([]int{tower}, many)
			for _, key := range around(keys) {
				checkPath(t, keys, towers, key)
			}
			gone, at, ok := impl.TowerPath(keys, towers, "~")
			if !ok || at != many || len(gone) != many {
				t.Errorf("all the way over %d keys: %v, %d, %v", many, gone, at, ok)
			}
		}
	}
}

func TestPromise5TowersUnlike(t *testing.T) {
	r := rand.New(rand.NewSource(59))
	for many := range 31 {
		keys := ascending(many)
		for range 20 {
			towers := make([]int, many)
			for i := range towers {
				towers[i] = 1 + r.Intn(impl.MaxTower)
			}
			for _, key := range around(keys) {
				checkPath(t, keys, towers, key)
			}
		}
	}
}

func TestPromise5EveryFourTowers(t *testing.T) {
	keys := []string{"b", "d", "f", "h"}
	towers := make([]int, 4)
	for row := range impl.MaxTower * impl.MaxTower * impl.MaxTower * impl.MaxTower {
		for i := range towers {
			towers[i], row = 1+row%impl.MaxTower, row/impl.MaxTower
		}
		for _, key := range strings.Split("abcdefghi", "") {
			checkPath(t, keys, towers, key)
		}
	}
}

func TestPromise5TowersOfLongKeys(t *testing.T) {
	long := strings.Repeat("k", impl.MaxKeyBytes-1)
	keys := []string{"\x00", "k", long, long + "a", long + "k", "\xff"}
	for _, key := range append(around(keys), long+"kk", strings.Repeat("k", 5000)) {
		checkPath(t, keys, []int{1, 6, 2, 1, 5, 3}, key)
	}
}
