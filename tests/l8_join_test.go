package tests

import (
	"math/rand"
	"slices"
	"testing"

	"loop.example/g00150/impl"
)

const mostRows = 12
const mostJoined = 300

// ofKind is an entry of a kind; the value is not told of a drop.
func ofKind(kind int, key string, seq int, value int) impl.Entry {
	switch kind {
	case impl.KindPut:
		return putOf(key, seq, value)
	case impl.KindJoin:
		return joinOf(key, seq, value)
	}
	return dropOf(key, seq)
}

// dealt lays good entries into so many rows; each row stays in order.
func dealt(r *rand.Rand, l []impl.Entry, many int) [][]impl.Entry {
	rows := make([][]impl.Entry, many)
	for _, e := range l {
		i := r.Intn(many)
		rows[i] = append(rows[i], e)
	}
	return rows
}

// drawRows deals drawn entries of some keys, with Seqs that leave room below.
func drawRows(r *rand.Rand, many int, rows int) [][]impl.Entry {
	l := drawEntries(r, many, someKeys())
	for i := range l {
		l[i].Seq += 10000
	}
	return dealt(r, inOrder(l), rows)
}

// manyRows are good ones.
func manyRows() [][][]impl.Entry {
	r := rand.New(rand.NewSource(81))
	out := [][][]impl.Entry{
		nil,
		{},
		{nil},
		{{}, nil, {}},
		make([][]impl.Entry, mostRows),
		{{putOf("k", 1, 1)}},
		{nil, {dropOf("k", 1)}, nil},
		{{joinOf("k", 3, 2), dropOf("m", 4)}, {joinOf("k", 1, 1)}},
		{kindsOf("a", "b", "c", "d", "e")},
		{{putOf("a", 9, 1), putOf("c", 8, 1), putOf("e", 7, 1)}, {putOf("b", 3, 1), putOf("d", 2, 1), putOf("f", 1, 1)}},
		{{putOf("d", 9, 1), putOf("e", 8, 1)}, {putOf("a", 3, 1), putOf("b", 2, 1)}},
		{{joinOf("k", 6, 1), joinOf("k", 3, 2)}, {joinOf("k", 5, 3), putOf("k", 2, 4)}, {joinOf("k", 4, 5), dropOf("k", 1)}},
		{{joinOf("k", 1, 1)}, {joinOf("k", topSeq, 2)}, {joinOf("k", 2, 3)}},
		{{dropOf("k", 5)}, {joinOf("k", 9, 1)}, {putOf("k", 7, 2)}, {dropOf("j", 3), dropOf("l", 8)}},
		{{putOf("k", 1, 1)}, {putOf("ka", 2, 1)}, {putOf("K", 3, 1)}, {putOf("\xff", 4, 1)}, {putOf("\x00", 5, 1)}},
	}
	for many := 1; many <= mostRows; many++ {
		out = append(out, drawRows(r, many, many), drawRows(r, 10*many, many), drawRows(r, mostJoined, many))
	}
	return out
}

func checkJoin(t *testing.T, rows [][]impl.Entry) []impl.Entry {
	t.Helper()
	out, ok := impl.JoinRows(rows)
	if want := inOrder(slices.Concat(rows...)); !ok || !sameEntries(out, want) {
		t.Fatalf("JoinRows(%v) = %v, %v, want %v", rows, out, ok, want)
	}
	if !impl.GoodEntries(out) {
		t.Fatalf("JoinRows(%v) = %v, which are not good", rows, out)
	}
	return out
}

func TestPromise8JoinOrdinaryRows(t *testing.T) {
	a9, a4, a1, b7, b3, c5 := joinOf("a", 9, 1), putOf("a", 4, 2), dropOf("a", 1), joinOf("b", 7, 3), putOf("b", 3, 4), dropOf("c", 5)
	all := []impl.Entry{a9, a4, a1, b7, b3, c5}
	for _, c := range []struct {
		what string
		rows [][]impl.Entry
		want []impl.Entry
	}{
		{"no rows", nil, nil},
		{"rows of nothing", [][]impl.Entry{nil, {}, nil}, nil},
		{"one row", [][]impl.Entry{all}, all},
		{"an empty row on each side", [][]impl.Entry{nil, all, {}}, all},
		{"keys apart", [][]impl.Entry{{a9, a4, a1}, {b7, b3}, {c5}}, all},
		{"keys apart, the last first", [][]impl.Entry{{c5}, {b7, b3}, {a9, a4, a1}}, all},
		{"keys between each other's", [][]impl.Entry{{a9, c5}, {b7}}, []impl.Entry{a9, b7, c5}},
		{"one key in several rows", [][]impl.Entry{{a1}, {a9}, {a4}}, []impl.Entry{a9, a4, a1}},
		{"all of it", [][]impl.Entry{{a4, b7}, {a9, a1, b3}, {c5}}, all},
		{"a row each", [][]impl.Entry{{c5}, {b3}, {b7}, {a1}, {a4}, {a9}}, all},
	} {
		if out, ok := impl.JoinRows(c.rows); !ok || !sameEntries(out, c.want) {
			t.Errorf("%s: JoinRows(%v) = %v, %v, want %v", c.what, c.rows, out, ok, c.want)
		}
	}
	eachOrder([]impl.Entry{a9, a4, a1, b7, b3}, 0, func(order []impl.Entry) {
		var rows [][]impl.Entry
		for _, e := range order {
			rows = append(rows, []impl.Entry{e})
		}
		checkJoin(t, rows)
	})
}

func TestPromise8JoinManyRows(t *testing.T) {
	for _, rows := range manyRows() {
		checkJoin(t, rows)
		slices.Reverse(rows)
		checkJoin(t, rows)
	}
	r := rand.New(rand.NewSource(82))
	for range 200 {
		checkJoin(t, drawRows(r, r.Intn(40), 1+r.Intn(mostRows)))
	}
}

// packedOf tells by the chapter's words what is left of a key's entries.
func packedOf(l []impl.Entry, bottom bool) []impl.Entry {
	var aggs []impl.Agg
	end := impl.KindJoin
	for _, e := range l {
		if end = e.Kind; end != impl.KindDrop {
			aggs = append(aggs, e.Agg)
		}
		if end != impl.KindJoin {
			break
		}
	}
	kind := impl.KindPut
	switch {
	case len(l) == 0 || len(aggs) == 0 && bottom:
		return nil
	case len(aggs) == 0:
		return l[:1]
	case end == impl.KindJoin && !bottom:
		kind = impl.KindJoin
	}
	return []impl.Entry{{Key: l[0].Key, Seq: l[0].Seq, Kind: kind, Agg: plainJoin(aggs...)}}
}

func checkPackKey(t *testing.T, l []impl.Entry, bottom bool, want []impl.Entry) {
	t.Helper()
	if out, ok := impl.PackKey(l, bottom); !ok || !sameEntries(out, want) {
		t.Fatalf("PackKey(%v, %v) = %v, %v, want %v", l, bottom, out, ok, want)
	}
}

func checkPackBoth(t *testing.T, l []impl.Entry) {
	t.Helper()
	for _, bottom := range []bool{false, true} {
		checkPackKey(t, l, bottom, packedOf(l, bottom))
	}
}

func TestPromise8PackOrdinaryKeys(t *testing.T) {
	two, join7, join12 := joinOf("k", 9, 2), joinOf("k", 8, 7), joinOf("k", 7, 12)
	three := impl.Agg{Count: 3, Sum: 21, Min: 2, Max: 12, Hist: []int{0, 0, 2, 1, 0, 0, 0, 0}}
	put := func(seq int, a impl.Agg) []impl.Entry {
		return []impl.Entry{{Key: "k", Seq: seq, Kind: impl.KindPut, Agg: a}}
	}
	join := func(seq int, a impl.Agg) []impl.Entry {
		return []impl.Entry{{Key: "k", Seq: seq, Kind: impl.KindJoin, Agg: a}}
	}
	drop := []impl.Entry{dropOf("k", 9)}
	for _, c := range []struct {
		what   string
		l      []impl.Entry
		above  []impl.Entry
		bottom []impl.Entry
	}{
		{"none", nil, nil, nil},
		{"no entries", []impl.Entry{}, nil, nil},
		{"one put", []impl.Entry{putOf("k", 9, 2)}, put(9, two.Agg), put(9, two.Agg)},
		{"one drop", drop, drop, nil},
		{"one join", []impl.Entry{two}, join(9, two.Agg), put(9, two.Agg)},
		{"joins alone", []impl.Entry{two, join7, join12}, join(9, three), put(9, three)},
		{"joins up to a put", []impl.Entry{two, join7, putOf("k", 6, 12)}, put(9, three), put(9, three)},
		{"joins up to a drop", []impl.Entry{two, join7, join12, dropOf("k", 6)}, put(9, three), put(9, three)},
		{"one join and a drop", []impl.Entry{two, dropOf("k", 6)}, put(9, two.Agg), put(9, two.Agg)},
		{"a put, older ones behind", []impl.Entry{putOf("k", 9, 2), join7, join12}, put(9, two.Agg), put(9, two.Agg)},
		{"a put, a drop behind", []impl.Entry{putOf("k", 9, 2), dropOf("k", 8)}, put(9, two.Agg), put(9, two.Agg)},
		{"a drop, older ones behind", []impl.Entry{dropOf("k", 9), join7, putOf("k", 6, 12)}, drop, nil},
		{"a drop, a drop behind", []impl.Entry{dropOf("k", 9), dropOf("k", 8)}, drop, nil},
		{"up to a put, older ones behind", []impl.Entry{two, join7, putOf("k", 6, 12), joinOf("k", 5, 1), dropOf("k", 4)}, put(9, three), put(9, three)},
		{"up to a drop, older ones behind", []impl.Entry{two, join7, join12, dropOf("k", 6), putOf("k", 5, 1)}, put(9, three), put(9, three)},
		{"a join of nothing", join(9, noAgg()), join(9, noAgg()), put(9, noAgg())},
		{"a join of nothing and a drop", append(join(9, noAgg()), dropOf("k", 8)), put(9, noAgg()), put(9, noAgg())},
		{"a put of nothing", put(9, noAgg()), put(9, noAgg()), put(9, noAgg())},
	} {
		t.Run(c.what, func(t *testing.T) {
			checkPackKey(t, c.l, false, c.above)
			checkPackKey(t, c.l, true, c.bottom)
		})
	}
}

func TestPromise8PackEveryRowOfKinds(t *testing.T) {
	r := rand.New(rand.NewSource(83))
	kinds := []int{impl.KindPut, impl.KindDrop, impl.KindJoin}
	rows := 1
	for many := range 7 {
		for row := range rows {
			var l []impl.Entry
			for i := range many {
				l = append(l, ofKind(kinds[row%len(kinds)], "k", 5*(many-i), r.Intn(3000)-100))
				row /= len(kinds)
			}
			checkPackBoth(t, l)
		}
		rows *= len(kinds)
	}
}

func TestPromise8PackWholeAggs(t *testing.T) {
	for _, a := range goodAggs() {
		for _, b := range goodAggs() {
			for _, kind := range []int{impl.KindPut, impl.KindJoin} {
				l := []impl.Entry{{Key: "k", Seq: 2, Kind: impl.KindJoin, Agg: a}, {Key: "k", Seq: 1, Kind: kind, Agg: b}}
				checkPackBoth(t, l)
			}
		}
		checkPackBoth(t, []impl.Entry{{Key: "k", Seq: 2, Kind: impl.KindPut, Agg: a}})
		checkPackBoth(t, []impl.Entry{{Key: "k", Seq: 2, Kind: impl.KindJoin, Agg: a}, dropOf("k", 1)})
	}
	half := impl.MaxCount/2 + 1
	full := fullOf(impl.MaxCount, 5, 5, 0, 0, impl.MaxCount)
	for _, end := range []impl.Entry{{Key: "k", Seq: 2, Kind: impl.KindPut, Agg: manyOf(half, 5, 2)}, {Key: "k", Seq: 2, Kind: impl.KindJoin, Agg: manyOf(half, 5, 2)}} {
		l := []impl.Entry{{Key: "k", Seq: 3, Kind: impl.KindJoin, Agg: manyOf(half, 5, 2)}, end}
		checkPackKey(t, l, true, []impl.Entry{{Key: "k", Seq: 3, Kind: impl.KindPut, Agg: full}})
		checkPackKey(t, l, false, []impl.Entry{{Key: "k", Seq: 3, Kind: end.Kind, Agg: full}})
	}
}

func TestPromise8PackLongKeys(t *testing.T) {
	r := rand.New(rand.NewSource(84))
	for _, many := range []int{1, 2, 60, 61, 100, 101, 299, mostJoined} {
		var joins []impl.Entry
		for i := range many {
			joins = append(joins, joinOf("k", topSeq-i, r.Intn(2000)))
		}
		checkPackBoth(t, joins)
		for _, kind := range []int{impl.KindPut, impl.KindDrop} {
			for _, place := range []int{0, many / 2, many - 1} {
				l := slices.Clone(joins)
				l[place] = ofKind(kind, "k", l[place].Seq, 77)
				checkPackBoth(t, l)
			}
		}
		checkPackBoth(t, inOrder(drawEntries(r, many, []string{"k"})))
	}
}

// checkMeans holds that each key tells the same of both, with the older ones below.
func checkMeans(t *testing.T, packed []impl.Entry, all []impl.Entry, below ...impl.Entry) {
	t.Helper()
	for _, key := range append(keysOnce(all), "none") {
		before, ok1 := impl.EntriesOf(slices.Concat(entriesWith(all, key), entriesWith(below, key)), key)
		after, ok2 := impl.EntriesOf(slices.Concat(entriesWith(packed, key), entriesWith(below, key)), key)
		a, has, ok3 := impl.FoldEntries(before)
		b, is, ok4 := impl.FoldEntries(after)
		if !ok1 || !ok2 || !ok3 || !ok4 || has != is || !sameAgg(a, b) {
			t.Fatalf("%q was %v, %v of %v, it is %v, %v of %v", key, a, has, before, b, is, after)
		}
	}
}

func entriesWith(l []impl.Entry, key string) []impl.Entry {
	var out []impl.Entry
	for _, e := range l {
		if e.Key == key {
			out = append(out, e)
		}
	}
	return out
}

func mustPack(t *testing.T, rows [][]impl.Entry, bottom bool) []impl.Entry {
	t.Helper()
	out, ok := impl.PackRows(rows, bottom)
	if !ok || !impl.GoodEntries(out) {
		t.Fatalf("PackRows(%v, %v) = %v, %v", rows, bottom, out, ok)
	}
	return out
}

func TestPromise8PackOrdinaryRows(t *testing.T) {
	rows := [][]impl.Entry{
		{joinOf("a", 20, 3), dropOf("c", 21), joinOf("d", 22, 5), dropOf("e", 23)},
		{joinOf("a", 10, 4), putOf("b", 12, 6), putOf("c", 11, 7), dropOf("d", 13)},
		{putOf("a", 1, 5), putOf("b", 2, 1), joinOf("f", 4, 2), joinOf("f", 3, 2)},
	}
	a := impl.Entry{Key: "a", Seq: 20, Kind: impl.KindPut, Agg: impl.Agg{Count: 3, Sum: 12, Min: 3, Max: 5, Hist: []int{0, 0, 3, 0, 0, 0, 0, 0}}}
	f := impl.Entry{Key: "f", Seq: 4, Kind: impl.KindJoin, Agg: manyOf(2, 2, 2)}
	want := []impl.Entry{a, putOf("b", 12, 6), dropOf("c", 21), putOf("d", 22, 5), dropOf("e", 23), f}
	eachOrder(rows, 0, func(order [][]impl.Entry) {
		if out := mustPack(t, order, false); !sameEntries(out, want) {
			t.Errorf("PackRows(%v, false) = %v, want %v", order, out, want)
		}
	})
	f.Kind = impl.KindPut
	want = []impl.Entry{a, putOf("b", 12, 6), putOf("d", 22, 5), f}
	eachOrder(rows, 0, func(order [][]impl.Entry) {
		if out := mustPack(t, order, true); !sameEntries(out, want) {
			t.Errorf("PackRows(%v, true) = %v, want %v", order, out, want)
		}
	})
}

func TestPromise8PackManyRows(t *testing.T) {
	for _, rows := range manyRows() {
		all := inOrder(slices.Concat(rows...))
		for _, bottom := range []bool{false, true} {
			var want []impl.Entry
			for _, key := range keysOnce(all) {
				want = append(want, packedOf(entriesWith(all, key), bottom)...)
			}
			out := mustPack(t, rows, bottom)
			if !sameEntries(out, want) {
				t.Fatalf("PackRows(%v, %v) = %v, want %v", rows, bottom, out, want)
			}
			checkMeans(t, out, all)
		}
	}
}

func TestPromise8PackAboveOlderOnes(t *testing.T) {
	r := rand.New(rand.NewSource(85))
	for range 150 {
		rows := drawRows(r, 1+r.Intn(30), 1+r.Intn(mostRows))
		all := inOrder(slices.Concat(rows...))
		packed := mustPack(t, rows, false)
		for _, key := range keysOnce(all) {
			checkMeans(t, packed, all, dropOf(key, 9))
			checkMeans(t, packed, all, putOf(key, 9, 5), joinOf(key, 8, 6))
			checkMeans(t, packed, all, joinOf(key, 9, 5), joinOf(key, 8, 6), putOf(key, 7, 3))
			checkMeans(t, packed, all, joinOf(key, 9, 5), dropOf(key, 8), putOf(key, 7, 3))
		}
		below := inOrder(drawEntries(r, 1+r.Intn(40), someKeys()))
		checkMeans(t, packed, all, below...)
	}
}

func TestPromise8PackStepByStep(t *testing.T) {
	r := rand.New(rand.NewSource(86))
	for range 150 {
		upper := drawRows(r, 1+r.Intn(40), 1+r.Intn(4))
		lower := dealt(r, inOrder(drawEntries(r, 1+r.Intn(40), someKeys())), 1+r.Intn(4))
		above := mustPack(t, upper, false)
		for _, bottom := range []bool{false, true} {
			want := mustPack(t, slices.Concat(upper, lower), bottom)
			if out := mustPack(t, append([][]impl.Entry{above}, lower...), bottom); !sameEntries(out, want) {
				t.Fatalf("packed above first %v, at once %v", out, want)
			}
			if out := mustPack(t, [][]impl.Entry{want}, bottom); !sameEntries(out, want) {
				t.Fatalf("packed again %v, it was %v", out, want)
			}
		}
	}
}

func TestPromise8LiveOrdinary(t *testing.T) {
	rows := [][]impl.Entry{
		{joinOf("a", 20, 3), dropOf("c", 21), joinOf("d", 22, 5), dropOf("e", 23)},
		{joinOf("a", 10, 4), putOf("b", 12, 6), putOf("c", 11, 7), dropOf("d", 13)},
		{{Key: "g", Seq: 5, Kind: impl.KindPut, Agg: noAgg()}},
	}
	a := impl.Entry{Key: "a", Seq: 20, Kind: impl.KindPut, Agg: impl.Agg{Count: 2, Sum: 7, Min: 3, Max: 4, Hist: []int{0, 0, 2, 0, 0, 0, 0, 0}}}
	want := []impl.Entry{a, putOf("b", 12, 6), putOf("d", 22, 5), rows[2][0]}
	if out, ok := impl.LiveIn(rows); !ok || !sameEntries(out, want) {
		t.Errorf("LiveIn(%v) = %v, %v, want %v", rows, out, ok, want)
	}
	for _, none := range [][][]impl.Entry{nil, {nil, {}}, {dropsOf("a", "b", "c")}, {{dropOf("k", 9)}, {putOf("k", 8, 1)}}} {
		if out, ok := impl.LiveIn(none); !ok || len(out) != 0 {
			t.Errorf("LiveIn(%v) = %v, %v, want none and true", none, out, ok)
		}
	}
}

func TestPromise8LiveIsWhatIsFolded(t *testing.T) {
	for _, rows := range manyRows() {
		all := inOrder(slices.Concat(rows...))
		var want []impl.Entry
		for _, key := range keysOnce(all) {
			of := entriesWith(all, key)
			if a, has, ok := impl.FoldEntries(of); !ok || has {
				want = append(want, impl.Entry{Key: key, Seq: of[0].Seq, Kind: impl.KindPut, Agg: a})
			}
		}
		out, ok := impl.LiveIn(rows)
		if !ok || !sameEntries(out, want) || !impl.GoodEntries(out) {
			t.Fatalf("LiveIn(%v) = %v, %v, want %v", rows, out, ok, want)
		}
		checkMeans(t, out, all)
	}
}
