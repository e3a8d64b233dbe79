package tests

import (
	"math/rand"
	"slices"
	"strings"
	"testing"

	"loop.example/g00150/impl"
)

// liveOf tells of all entries that were ever written what ScanStore must tell.
func liveOf(written []impl.Entry) []impl.Entry {
	var out []impl.Entry
	l := inOrder(written)
	for _, key := range keysOnce(l) {
		of := entriesWith(l, key)
		if a, has := plainFold(of); has {
			out = append(out, impl.Entry{Key: key, Seq: of[0].Seq, Kind: impl.KindPut, Agg: a})
		}
	}
	return out
}

// plainFold is by the words of chapter 5, the newest first.
func plainFold(of []impl.Entry) (impl.Agg, bool) {
	if len(of) == 0 || of[0].Kind == impl.KindDrop {
		return impl.Agg{}, false
	}
	var aggs []impl.Agg
	for _, e := range of {
		if e.Kind != impl.KindDrop {
			aggs = append(aggs, e.Agg)
		}
		if e.Kind != impl.KindJoin {
			break
		}
	}
	slices.Reverse(aggs)
	return plainJoin(aggs...), true
}

// checkTells holds GetKey and ScanStore to what was written.
func checkTells(t *testing.T, what string, s impl.Store, written []impl.Entry, keys ...string) {
	t.Helper()
	want := liveOf(written)
	l, ok := impl.ScanStore(s)
	if !ok || !sameEntries(l, want) {
		t.Fatalf("%s: ScanStore = %v, %v, want %v", what, l, ok, want)
	}
	for _, key := range append(keys, keysOnce(inOrder(written))...) {
		wantAgg, wantHas := plainFold(entriesWith(inOrder(written), key))
		a, has, ok := impl.GetKey(s, key)
		if !ok || has != wantHas || !sameAgg(a, wantAgg) {
			t.Fatalf("%s: GetKey(%q) = %v, %v, %v, want %v, %v", what, key, a, has, ok, wantAgg, wantHas)
		}
	}
}

func TestPromise10GetOfAnOrdinaryStore(t *testing.T) {
	s := baseStore()
	for _, c := range []struct {
		key string
		has bool
		agg impl.Agg
	}{
		{"a", true, plainJoin(manyOf(1, 5, 2), manyOf(1, 1, 2), manyOf(1, 3, 2), manyOf(1, 7, 2))},
		{"b", true, manyOf(1, 100000, 7)},
		{"c", false, impl.Agg{}},
		{"g", false, impl.Agg{}},
		{"m", true, manyOf(1, 8, 2)},
		{"p", true, manyOf(1, 2, 2)},
		{"q", false, impl.Agg{}},
		{"x", true, plainJoin(manyOf(1, 5, 2), manyOf(1, -4, 0))},
		{"z", true, plainJoin(manyOf(1, 4, 2), manyOf(1, 1, 2))},
		{"none", false, impl.Agg{}},
		{"", false, impl.Agg{}},
		{"aa", false, impl.Agg{}},
		{"a\x00", false, impl.Agg{}},
		{strings.Repeat("a", impl.MaxKeyBytes+1), false, impl.Agg{}},
	} {
		if a, has, ok := impl.GetKey(s, c.key); !ok || has != c.has || !sameAgg(a, c.agg) {
			t.Errorf("GetKey(%q) = %v, %v, %v, want %v, %v", c.key, a, has, ok, c.agg, c.has)
		}
	}
	var seqs []int
	var keys []string
	l, ok := impl.ScanStore(s)
	for _, e := range l {
		seqs, keys = append(seqs, e.Seq), append(keys, e.Key)
		if a, has, _ := impl.GetKey(s, e.Key); !has || e.Kind != impl.KindPut || !sameAgg(a, e.Agg) {
			t.Errorf("ScanStore tells %v, GetKey %v", e, a)
		}
	}
	if !ok || !slices.Equal(seqs, []int{31, 36, 33, 7, 35, 20}) || !slices.Equal(keys, []string{"a", "b", "m", "p", "x", "z"}) {
		t.Errorf("ScanStore tells %q, %v, %v", keys, seqs, ok)
	}
}

func TestPromise10TellsOfEachPlace(t *testing.T) {
	older, newer := []impl.Entry{putOf("k", 5, 1), joinOf("l", 4, 2), dropOf("m", 3)}, []impl.Entry{joinOf("k", 15, 3), dropOf("l", 14), putOf("m", 13, 4)}
	for _, c := range []struct {
		what string
		s    impl.Store
		all  []impl.Entry
	}{
		{"nowhere", newStore(t, 10), nil},
		{"Mem alone", storeWith(t, older), older},
		{"level 0 alone", storeWith(t, nil, [][]impl.Entry{older}), older},
		{"level 1 alone", storeWith(t, nil, nil, [][]impl.Entry{older}), older},
		{"level 2 alone", storeWith(t, nil, nil, nil, [][]impl.Entry{older}), older},
		{"both", storeWith(t, newer, [][]impl.Entry{older}), slices.Concat(newer, older)},
		{"two of level 0", storeWith(t, nil, [][]impl.Entry{older, newer}), slices.Concat(newer, older)},
		{"levels 0 and 1", storeWith(t, nil, [][]impl.Entry{newer}, [][]impl.Entry{older}), slices.Concat(newer, older)},
		{"levels 1 and 2", storeWith(t, nil, nil, [][]impl.Entry{newer}, [][]impl.Entry{older}), slices.Concat(newer, older)},
		{"the newer ones below", storeWith(t, nil, [][]impl.Entry{older}, [][]impl.Entry{newer}), slices.Concat(newer, older)},
		{"an ordinary one", baseStore(), slices.Concat(slices.Concat(baseBatches()...), baseTables()[3], baseTables()[4], baseTables()[5], baseTables()[6], baseTables()[8])},
	} {
		checkTells(t, c.what, c.s, c.all, "", "none", "k", "l", "m")
	}
}

// There may be more tables, more entries in all and more of a key than the
// functions of chapter 8 take.
func TestPromise10TellsOfMany(t *testing.T) {
	var all []impl.Entry
	var upper [][]impl.Entry
	seq := 1
	for range 12 {
		var l []impl.Entry
		for i := range 100 {
			l = append(l, joinOf("k", seq+100-i, i%7))
		}
		upper, all, seq = append(upper, l), append(all, l...), seq+100
	}
	lower := [][]impl.Entry{putsFrom("a", 100, seq+100), putsFrom("b", 100, seq+200), putsFrom("c", 100, seq+300), putsFrom("d", 50, seq+400)}
	s := storeWith(t, putsFrom("e", 60, seq+2000), upper, lower)
	all = slices.Concat(append(lower, all, putsFrom("e", 60, seq+2000))...)
	if l, ok := impl.ScanStore(s); !ok || len(l) != 411 || !sameEntries(l, liveOf(all)) {
		t.Errorf("ScanStore tells %d, %v", len(l), ok)
	}
	want, _ := plainFold(entriesWith(inOrder(all), "k"))
	if a, has, ok := impl.GetKey(s, "k"); a.Count != 1200 || !has || !ok || !sameAgg(a, want) {
		t.Errorf("GetKey tells %v", a)
	}
}

func TestPromise10DroppedAndPutAgain(t *testing.T) {
	s := newStore(t, impl.MaxQuota)
	var written []impl.Entry
	seq := 0
	for i, kind := range []int{impl.KindPut, impl.KindDrop, impl.KindJoin, impl.KindJoin, impl.KindDrop, impl.KindDrop, impl.KindPut, impl.KindJoin, impl.KindDrop} {
		seq++
		e := ofKind(kind, "k", seq, 10+i)
		written = append(written, e)
		s = checkDo(t, "a change", s, batchOf(e), impl.StoreOk)
		checkTells(t, "behind a change", s, written, "k")
		for _, l := range [][]impl.Do{{flushDo()}, {flushDo(), packDo(0)}, {flushDo(), packDo(0), packDo(1)}} {
			moved, _, _ := impl.PlayStore(s, l)
			checkTells(t, "flushed and packed", moved, written, "k")
		}
		if i%2 == 0 {
			s = mustDo(t, s, flushDo())
		}
		if i%3 == 0 {
			s = mustDo(t, s, packDo(0))
		}
		checkTells(t, "in the end", s, written, "k")
	}
}

// drawDo is a Do that mostly can be done; the entries have the Seqs that they will have.
func drawDo(r *rand.Rand, s impl.Store, keys []string) (impl.Do, []impl.Entry) {
	switch r.Intn(10) {
	case 0, 1:
		return flushDo(), nil
	case 2:
		return packDo(r.Intn(2)), nil
	}
	var l []impl.Entry
	for i := range 1 + r.Intn(impl.MaxBatch) {
		l = append(l, drawEntry(r, keys[r.Intn(len(keys))], greatestSeq(s)+1+i))
	}
	return batchOf(l...), l
}

// What is written is told, wherever it is kept, whatever is flushed, packed and cut.
func TestPromise10LongPlays(t *testing.T) {
	r := rand.New(rand.NewSource(102))
	codes := map[int]int{}
	for play := range 14 {
		keys := [][]string{{"k"}, someKeys(), namedKeys("key", 40), apart(90)}[play%4]
		s := newStore(t, []int{2500, 20000, impl.MaxQuota}[play%3])
		var written []impl.Entry
		for step := range 60 {
			d, l := drawDo(r, s, keys)
			plan := planOf(s, d)
			codes[plan.code]++
			if r.Intn(4) == 0 {
				checkCut(t, "a play", s, d, r.Intn(len(plan.ops)+2), []int{r.Intn(1000), r.Intn(1000)})
				next, _ := impl.CutStore(s, d, r.Intn(len(plan.ops)+2), []int{r.Intn(1000), r.Intn(1000)})
				if len(l) > 0 && len(next.Mem) > len(s.Mem) {
					written = append(written, l...)
				}
				s = next
			} else {
				s = checkDo(t, "a play", s, d, plan.code)
				if plan.code == impl.StoreOk {
					written = append(written, l...)
				}
			}
			if step%5 == 0 {
				checkTells(t, "a play", s, written, keys...)
			}
		}
		checkTells(t, "the end of a play", s, written, keys...)
	}
	for _, code := range []int{impl.StoreOk, impl.StoreNone, impl.StoreMem, impl.StoreFull} {
		if codes[code] == 0 {
			t.Errorf("no play tells %d: %v", code, codes)
		}
	}
}

func TestPromise10PlayOfNothing(t *testing.T) {
	for _, s := range []impl.Store{baseStore(), newStore(t, 0)} {
		for _, l := range [][]impl.Do{nil, {}} {
			if next, codes, ok := impl.PlayStore(s, l); !ok || len(codes) != 0 || !sameStore(next, s) {
				t.Errorf("PlayStore of nothing = %v, %v, %v", next, codes, ok)
			}
		}
	}
}

func TestPromise10PlayIsOneAfterTheOther(t *testing.T) {
	r := rand.New(rand.NewSource(103))
	for _, many := range []int{1, 2, 7, 30, 59, 60} {
		first := newStore(t, 9000)
		var l []impl.Do
		var want []int
		s := first
		for i := range many {
			d, _ := drawDo(r, s, someKeys())
			if i%7 == 3 {
				d = []impl.Do{{}, packDo(5), {Kind: impl.DoFlush, Level: 1}, batchOf()}[r.Intn(4)]
			}
			next, code := impl.DoStore(s, d)
			s, l, want = next, append(l, d), append(want, code)
		}
		got, codes, ok := impl.PlayStore(first, l)
		if !ok || !slices.Equal(codes, want) || !sameStore(got, s) {
			t.Errorf("PlayStore of %d = %v, %v, want %v", many, codes, ok, want)
		}
		if many > 10 && !slices.Contains(codes, impl.StoreBad) {
			t.Errorf("no code of %v is StoreBad", codes)
		}
	}
}

func TestPromise13TooManyDos(t *testing.T) {
	for _, many := range []int{60, 61, 62, 100, 1000} {
		for _, d := range []impl.Do{flushDo(), batchOf(joinOf("k", 0, 1)), {}} {
			s := newStore(t, impl.MaxQuota)
			next, codes, ok := impl.PlayStore(s, slices.Repeat([]impl.Do{d}, many))
			if many == 60 {
				if !ok || len(codes) != 60 {
					t.Errorf("PlayStore of 60 = %v, %v", codes, ok)
				}
				continue
			}
			if ok || len(codes) != 0 || !sameStore(next, impl.Store{}) {
				t.Errorf("PlayStore of %d = %v, %v, %v, want zero and false", many, next, codes, ok)
			}
		}
	}
}
