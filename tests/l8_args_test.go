package tests

import (
	"math/rand"
	"slices"
	"strings"
	"testing"

	"loop.example/g00150/impl"
)

// checkNoRows asks for the zero answer of every function that is given these rows.
func checkNoRows(t *testing.T, what string, rows [][]impl.Entry) {
	t.Helper()
	if out, ok := impl.JoinRows(rows); ok || len(out) != 0 {
		t.Errorf("%s: JoinRows(%v) = %v, %v, want none and false", what, rows, out, ok)
	}
	if out, ok := impl.LiveIn(rows); ok || len(out) != 0 {
		t.Errorf("%s: LiveIn(%v) = %v, %v, want none and false", what, rows, out, ok)
	}
	for _, bottom := range []bool{false, true} {
		if out, ok := impl.PackRows(rows, bottom); ok || len(out) != 0 {
			t.Errorf("%s: PackRows(%v, %v) = %v, %v, want none and false", what, rows, bottom, out, ok)
		}
	}
}

func checkNoPack(t *testing.T, what string, l []impl.Entry) {
	t.Helper()
	for _, bottom := range []bool{false, true} {
		if out, ok := impl.PackKey(l, bottom); ok || len(out) != 0 {
			t.Errorf("%s: PackKey(%v, %v) = %v, %v, want none and false", what, l, bottom, out, ok)
		}
	}
}

func checkNoSplit(t *testing.T, what string, l []impl.Entry, most int) {
	t.Helper()
	if out, ok := impl.SplitRows(l, most); ok || len(out) != 0 {
		t.Errorf("%s: SplitRows(%v, %d) = %v, %v, want none and false", what, l, most, out, ok)
	}
}

func checkNoOverlap(t *testing.T, what string, a []impl.Entry, b []impl.Entry) {
	t.Helper()
	if over, ok := impl.Overlap(a, b); over || ok {
		t.Errorf("%s: Overlap(%v, %v) = %v, %v, want false and false", what, a, b, over, ok)
	}
	if over, ok := impl.Overlap(b, a); over || ok {
		t.Errorf("%s: Overlap(%v, %v) = %v, %v, want false and false", what, b, a, over, ok)
	}
}

// checkNoneTaken gives entries that are not good to every function of the chapter.
func checkNoneTaken(t *testing.T, what string, l []impl.Entry) {
	t.Helper()
	if impl.GoodEntries(l) {
		t.Fatalf("%s: %v are good", what, l)
	}
	checkNoRows(t, what, [][]impl.Entry{l})
	checkNoRows(t, what, [][]impl.Entry{nil, l, nil})
	checkNoRows(t, what, [][]impl.Entry{{putOf("a", 1001, 1)}, l})
	checkNoRows(t, what, [][]impl.Entry{l, {joinOf("k", 1001, 1)}, {dropOf("z", 1002)}})
	checkNoPack(t, what, l)
	for _, most := range []int{1, 2, 20, 100} {
		checkNoSplit(t, what, l, most)
	}
	checkNoOverlap(t, what, l, l)
	checkNoOverlap(t, what, l, nil)
	checkNoOverlap(t, what, l, []impl.Entry{putOf("a", 1, 1), putOf("z", 2, 1)})
}

func TestPromise13RowsOfEntriesThatAreNotGood(t *testing.T) {
	for _, c := range badEntries() {
		checkNoneTaken(t, c.what, []impl.Entry{c.entry})
		checkNoneTaken(t, c.what, []impl.Entry{putOf("A", 9, 1), c.entry})
		checkNoneTaken(t, c.what, []impl.Entry{c.entry, putOf("\xff", 4, 1)})
		checkNoneTaken(t, c.what, []impl.Entry{joinOf("k", 6, 1), c.entry, dropOf("k", 4)})
		checkNoneTaken(t, c.what, []impl.Entry{putOf("k", 6, 1), c.entry, dropOf("k", 4)})
	}
}

func TestPromise13RowsOutOfOrder(t *testing.T) {
	for _, l := range [][]impl.Entry{
		{putOf("b", 1, 1), putOf("a", 2, 1)},
		{putOf("b", 2, 1), putOf("a", 1, 1)},
		{putOf("a", 1, 1), putOf("b", 2, 1), putOf("a", 3, 1)},
		{putOf("ka", 1, 1), putOf("k", 2, 1)},
		{putOf("\xff", 1, 1), putOf("z", 2, 1)},
		{putOf("k", 1, 1), putOf("k", 2, 1)},
		{joinOf("k", 3, 1), joinOf("k", 1, 1), joinOf("k", 2, 1)},
		{joinOf("k", 1, 1), joinOf("k", 1, 1)},
		{putOf("k", 1, 1), joinOf("k", 1, 2)},
		{dropOf("k", 9), joinOf("k", 2, 1), joinOf("k", 3, 1)},
		{putOf("k", 9, 1), dropOf("k", 4), dropOf("k", 4)},
		{putOf("j", 1, 1), putOf("k", 1, 1)},
		{putOf("j", 5, 1), putOf("k", 7, 1), putOf("k", 6, 1), putOf("l", 5, 1)},
		{dropOf("j", topSeq), dropOf("k", 1), dropOf("l", topSeq)},
	} {
		checkNoneTaken(t, "out of order", l)
	}
	// Other rows, whose entries lie between, don't mend what is out of order.
	out := []impl.Entry{putOf("m", 5, 1), putOf("c", 6, 1)}
	for _, key := range []string{"a", "c", "d", "m", "z"} {
		checkNoRows(t, "out of order", [][]impl.Entry{out, {putOf(key, 100, 1)}})
		checkNoRows(t, "out of order", [][]impl.Entry{{putOf("a", 101, 1), putOf(key+"k", 100, 1)}, out})
	}
}

func TestPromise13EachTwoOfARowExchanged(t *testing.T) {
	r := rand.New(rand.NewSource(89))
	for range 5 {
		rows := drawRows(r, 60, 6)
		for i, row := range rows {
			for place := 1; place < len(row); place++ {
				other := slices.Clone(row)
				other[place-1], other[place] = other[place], other[place-1]
				all := slices.Clone(rows)
				all[i] = other
				checkNoRows(t, "two are exchanged", all)
			}
		}
	}
}

func TestPromise13RowsWithASeqTwice(t *testing.T) {
	for _, rows := range [][][]impl.Entry{
		{{putOf("k", 1, 1)}, {putOf("k", 1, 1)}},
		{{putOf("k", 1, 1)}, {joinOf("k", 1, 2)}},
		{{putOf("a", 1, 1)}, {putOf("z", 1, 1)}},
		{{putOf("z", 1, 1)}, nil, {dropOf("a", 1)}},
		{{dropOf("a", 5), dropOf("k", topSeq)}, {dropOf("b", 6)}, {dropOf("c", topSeq)}},
		{kindsOf("a", "b", "c"), kindsOf("a", "b", "c")},
		{{putOf("j", 1, 1), putOf("k", 1, 1)}, {putOf("l", 2, 1)}},
	} {
		checkNoRows(t, "a Seq twice", rows)
	}
	r := rand.New(rand.NewSource(90))
	for range 40 {
		rows := drawRows(r, 30, 5)
		for i := range rows {
			j := (i + 1 + r.Intn(4)) % 5
			if len(rows[i]) == 0 || len(rows[j]) == 0 {
				continue
			}
			twice := copyRows(rows)
			twice[i][r.Intn(len(rows[i]))].Seq = rows[j][r.Intn(len(rows[j]))].Seq
			twice[i] = inOrder(twice[i])
			checkNoRows(t, "a Seq in two rows", twice)
		}
	}
}

func copyRows(rows [][]impl.Entry) [][]impl.Entry {
	var out [][]impl.Entry
	for _, row := range rows {
		out = append(out, copyEntries(row))
	}
	return out
}

func TestPromise13UpToTwelveRows(t *testing.T) {
	r := rand.New(rand.NewSource(91))
	for _, many := range []int{mostRows + 1, mostRows + 2, 100, 1000} {
		checkNoRows(t, "too many rows, all empty", make([][]impl.Entry, many))
		checkNoRows(t, "too many rows", drawRows(r, 40, many))
		rows := make([][]impl.Entry, many)
		rows[many-1] = dropsOf("k")
		checkNoRows(t, "too many rows, one not empty", rows)
	}
	for many := range mostRows + 1 {
		checkJoin(t, make([][]impl.Entry, many))
	}
	checkJoin(t, drawRows(r, 40, mostRows))
}

func TestPromise13UpToThreeHundredEntries(t *testing.T) {
	r := rand.New(rand.NewSource(92))
	for rows := 1; rows <= mostRows; rows++ {
		checkJoin(t, drawRows(r, mostJoined, rows))
		checkNoRows(t, "too many entries", drawRows(r, mostJoined+1, rows))
	}
	checkNoRows(t, "too many entries", [][]impl.Entry{kindsOf(manyTimes("k", mostJoined+1)...)})
	checkNoRows(t, "too many entries", drawRows(r, 3000, 3))
	for _, many := range []int{mostJoined + 1, mostJoined + 2, 1000} {
		checkNoPack(t, "too many of a key", kindsOf(manyTimes("k", many)...))
		checkNoPack(t, "too many of a key", dropsOf(manyTimes("k", many)...))
		for _, most := range []int{1, 50, 100} {
			checkNoSplit(t, "too many", kindsOf(manyTimes("k", many)...), most)
			checkNoSplit(t, "too many", inOrder(drawEntries(r, many, someKeys())), most)
		}
	}
	checkPackBoth(t, kindsOf(manyTimes("k", mostJoined)...))
	checkPackBoth(t, dropsOf(manyTimes("k", mostJoined)...))
	checkSplit(t, inOrder(drawEntries(r, mostJoined, someKeys())), 100)
}

func TestPromise13PackOfTwoKeys(t *testing.T) {
	for _, l := range [][]impl.Entry{
		{joinOf("a", 1, 1), joinOf("b", 2, 1)},
		{putOf("a", 1, 1), joinOf("b", 2, 1)},
		{putOf("a", 2, 1), dropOf("b", 1)},
		{dropOf("a", 1), dropOf("b", 2)},
		{dropOf("k", 9), dropOf("k", 8), putOf("k\x00", 10, 1)},
		{joinOf("k", 9, 1), putOf("k", 8, 1), putOf("ka", 10, 1)},
		{joinOf("K", 9, 1), joinOf("k", 8, 1), joinOf("k", 7, 1)},
		{joinOf("a", 9, 1), joinOf("b", 8, 1), joinOf("c", 7, 1)},
	} {
		if !impl.GoodEntries(l) {
			t.Fatalf("%v are not good", l)
		}
		checkNoPack(t, "two keys", l)
	}
}

func TestPromise13SplitByAnyMost(t *testing.T) {
	lists := [][]impl.Entry{nil, {}, dropsOf("k"), kindsOf("a", "b", "c", "d"), kindsOf(manyTimes("k", 101)...), {{}}}
	for _, most := range append([]int{0, -1, -100, 101, 102, 1000, 256 + 1}, farInts()...) {
		for _, l := range lists {
			checkNoSplit(t, "most is none", l, most)
		}
	}
	for _, most := range []int{1, 100} {
		for _, l := range lists[:5] {
			checkSplit(t, l, most)
		}
	}
}

// givenRows are good rows and rows that are not.
func givenRows() [][][]impl.Entry {
	out := append(manyRows(), make([][]impl.Entry, mostRows+1))
	for i, l := range manyEntryLists() {
		out = append(out, [][]impl.Entry{l})
		if i%5 == 0 {
			out = append(out, [][]impl.Entry{l, {putOf("k", 900, 1)}, nil, l})
		}
	}
	return out
}

// looseRows have memory behind each length, and tells whether all of it stayed.
func looseRows(rows [][]impl.Entry) ([][]impl.Entry, func() bool) {
	var out [][]impl.Entry
	var stayed []func() bool
	for _, row := range append(slices.Clone(rows), []impl.Entry{putOf("behind", 555, 5)}) {
		l, same := looseEntries(row)
		out, stayed = append(out, l), append(stayed, same)
	}
	heads := slices.Clone(out)
	return out[:len(rows)], func() bool {
		for i := range heads {
			if !stayed[i]() || !sameEntries(out[i], heads[i]) {
				return false
			}
		}
		return true
	}
}

func TestPromise13RowArgumentsStay(t *testing.T) {
	for _, given := range givenRows() {
		rows, stayed := looseRows(given)
		impl.JoinRows(rows)
		impl.LiveIn(rows)
		for _, bottom := range []bool{false, true} {
			impl.PackRows(rows, bottom)
			for _, row := range rows {
				impl.PackKey(row, bottom)
			}
		}
		for _, row := range rows {
			for _, most := range []int{0, 1, 3, 100, 101} {
				impl.SplitRows(row, most)
			}
			for _, other := range rows {
				impl.Overlap(row, other)
			}
		}
		if !stayed() {
			t.Fatalf("written into %v", given)
		}
	}
}

func TestPromise13NothingBehindLengthsOfRows(t *testing.T) {
	for _, given := range givenRows() {
		rows, _ := looseRows(given)
		same := func(what string, a []impl.Entry, ok bool, b []impl.Entry, too bool) {
			t.Helper()
			if ok != too || !sameEntries(a, b) {
				t.Fatalf("%s(%v) hangs on what lies behind", what, given)
			}
			checkNothingBehindEntries(t, a)
		}
		a, ok := impl.JoinRows(rows)
		b, too := impl.JoinRows(given)
		same("JoinRows", a, ok, b, too)
		a, ok = impl.LiveIn(rows)
		b, too = impl.LiveIn(given)
		same("LiveIn", a, ok, b, too)
		for _, bottom := range []bool{false, true} {
			a, ok = impl.PackRows(rows, bottom)
			b, too = impl.PackRows(given, bottom)
			same("PackRows", a, ok, b, too)
			for i := range rows {
				a, ok = impl.PackKey(rows[i], bottom)
				b, too = impl.PackKey(given[i], bottom)
				same("PackKey", a, ok, b, too)
			}
		}
	}
}

func TestPromise13NothingBehindLengthsOfPieces(t *testing.T) {
	for _, list := range manyEntryLists() {
		l, _ := looseEntries(list)
		for _, most := range []int{1, 2, 3, 10, 100} {
			a, ok := impl.SplitRows(l, most)
			b, too := impl.SplitRows(list, most)
			if ok != too || !slices.EqualFunc(a, b, sameEntries) {
				t.Fatalf("SplitRows(%v, %d) hangs on what lies behind", list, most)
			}
			for _, piece := range a {
				checkNothingBehindEntries(t, piece)
			}
			for _, piece := range a[len(a):cap(a)] {
				if piece != nil {
					t.Fatalf("behind the pieces lies %v", piece)
				}
			}
		}
		for _, other := range [][]impl.Entry{dropsOf("zz"), dropsOf("b", "y")} {
			over, ok := impl.Overlap(l, other)
			want, too := impl.Overlap(list, other)
			if over != want || ok != too {
				t.Fatalf("Overlap(%v, %v) hangs on what lies behind", list, other)
			}
		}
	}
}

// checkNewRows fills one answer and then the argument, and asks for another answer each time.
func checkNewRows(t *testing.T, what string, given [][]impl.Entry, ask func([][]impl.Entry) ([]impl.Entry, bool)) {
	t.Helper()
	rows := copyRows(given)
	one, _ := ask(rows)
	other, _ := ask(rows)
	want := copyEntries(other)
	if !fillEntries(one) || !slices.EqualFunc(rows, given, sameEntries) || !sameEntries(other, want) {
		t.Fatalf("%s(%v) shares memory", what, given)
	}
	for _, row := range rows {
		fillEntries(row)
	}
	clear(rows)
	if !sameEntries(other, want) {
		t.Fatalf("%s(%v) changed with its argument", what, given)
	}
}

func TestPromise13RowAnswersAreNew(t *testing.T) {
	for _, rows := range manyRows() {
		checkNewRows(t, "JoinRows", rows, impl.JoinRows)
		checkNewRows(t, "LiveIn", rows, impl.LiveIn)
		for _, bottom := range []bool{false, true} {
			checkNewRows(t, "PackRows", rows, func(rows [][]impl.Entry) ([]impl.Entry, bool) {
				return impl.PackRows(rows, bottom)
			})
			for _, row := range rows {
				for _, key := range keysOnce(row) {
					checkNewRows(t, "PackKey", [][]impl.Entry{entriesWith(row, key)}, func(rows [][]impl.Entry) ([]impl.Entry, bool) {
						return impl.PackKey(rows[0], bottom)
					})
				}
			}
		}
	}
}

func TestPromise13PiecesAreNew(t *testing.T) {
	r := rand.New(rand.NewSource(93))
	for range 30 {
		l := inOrder(drawEntries(r, 1+r.Intn(100), someKeys()))
		kept := copyEntries(l)
		for _, most := range []int{1, 3, 10, 100} {
			one, _ := impl.SplitRows(l, most)
			other, _ := impl.SplitRows(l, most)
			for i := range one {
				rest := copyRows(one[i+1:])
				if !fillEntries(one[i]) || !slices.EqualFunc(one[i+1:], rest, sameEntries) {
					t.Fatalf("SplitRows(%v, %d): piece %d shares memory", kept, most, i)
				}
			}
			if !sameEntries(l, kept) || !sameEntries(slices.Concat(other...), kept) {
				t.Fatalf("SplitRows(%v, %d) shares memory", kept, most)
			}
			given := copyEntries(l)
			again, _ := impl.SplitRows(given, most)
			fillEntries(given)
			if !sameEntries(slices.Concat(again...), kept) {
				t.Fatalf("SplitRows(%v, %d) changed with its argument", kept, most)
			}
		}
	}
}

func TestPromise13RowsThatShareAHist(t *testing.T) {
	one := manyOf(1, 5, 2)
	of := func(kind int, key string, seq int) impl.Entry {
		return impl.Entry{Key: key, Seq: seq, Kind: kind, Agg: one}
	}
	rows := [][]impl.Entry{
		{of(impl.KindPut, "a", 9), of(impl.KindJoin, "b", 8), of(impl.KindPut, "c", 7)},
		{of(impl.KindJoin, "b", 5), of(impl.KindJoin, "d", 4), dropOf("e", 3)},
	}
	if out, ok := impl.JoinRows(rows); !ok || !fillEntries(out) {
		t.Error("two lists of JoinRows's answer share memory")
	}
	if out, ok := impl.LiveIn(rows); !ok || !fillEntries(out) {
		t.Error("two lists of LiveIn's answer share memory")
	}
	for _, bottom := range []bool{false, true} {
		if out, ok := impl.PackRows(rows, bottom); !ok || !fillEntries(out) {
			t.Error("two lists of PackRows's answer share memory")
		}
		if out, ok := impl.PackKey(rows[0][:1], bottom); !ok || !fillEntries(out) {
			t.Error("two lists of PackKey's answer share memory")
		}
	}
	for _, most := range []int{1, 2, 3, 100} {
		pieces, ok := impl.SplitRows(rows[0], most)
		if all := slices.Concat(pieces...); !ok || !fillEntries(all) {
			t.Error("two lists of SplitRows's answer share memory")
		}
	}
	if !sameAgg(one, manyOf(1, 5, 2)) {
		t.Errorf("written into %v", one)
	}
}

func TestPromise13RowsAtTheLimitsOfEntries(t *testing.T) {
	long := strings.Repeat("\xff", impl.MaxKeyBytes)
	var row []impl.Entry
	for i, a := range goodAggs() {
		row = append(row, impl.Entry{Key: long, Seq: topSeq - i, Kind: impl.KindJoin, Agg: a})
	}
	empty := dropOf("\x00", 1)
	empty.Agg.Hist = []int{}
	rows := [][]impl.Entry{row, {empty}}
	checkJoin(t, rows)
	checkPackBoth(t, row)
	checkPackBoth(t, []impl.Entry{empty})
	checkMeans(t, mustPack(t, rows, false), inOrder(slices.Concat(rows...)))
	checkSplit(t, row, 1)
	checkOverlap(t, row, []impl.Entry{empty}, false)
}
