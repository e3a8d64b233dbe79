package tests

import (
	"math/rand"
	"slices"
	"sort"
	"testing"

	"loop.example/g00150/impl"
)

func checkAdd(t *testing.T, b impl.Board, k impl.Key, time int, value int, want impl.Board) impl.Board {
	t.Helper()
	got, code := impl.AddEvent(b, k, time, value)
	if code != impl.WinOk || !sameBoard(got, want) {
		t.Fatalf("AddEvent(%v, %v, %d, %d) = %v, %d, want %v", b, k, time, value, got, code, want)
	}
	if !impl.GoodBoard(got) {
		t.Fatalf("AddEvent(%v, %v, %d, %d) is not good", b, k, time, value)
	}
	return got
}

// checkNotAdded asks for the code, and for the board as it was.
func checkNotAdded(t *testing.T, what string, b impl.Board, k impl.Key, time int, value int, want int) {
	t.Helper()
	if got, code := impl.AddEvent(b, k, time, value); code != want || !sameBoard(got, b) {
		t.Errorf("%s: AddEvent(%v, %v, %d, %d) = %v, %d, want code %d and the board as it was", what, b, k, time, value, got, code, want)
	}
}

// withEvent is the board by the chapter's words, where the event is taken.
func withEvent(b impl.Board, k impl.Key, time int, value int) impl.Board {
	out := copyBoard(b)
	k = copyKey(k)
	k.Start = time / b.Size * b.Size
	for i, w := range out.Wins {
		if sameKey(w.Key, k) {
			out.Wins[i].Agg, out.Wins[i].Dirty = plainJoin(w.Agg, oneOf(value)), true
			return out
		}
	}
	out.Wins = append(out.Wins, impl.Win{Key: k, Agg: oneOf(value), Dirty: true})
	sort.Slice(out.Wins, func(i int, j int) bool { return keyOrder(out.Wins[i].Key) < keyOrder(out.Wins[j].Key) })
	return out
}

func TestPromise11FirstEvents(t *testing.T) {
	b := boardOf(10, 20, 30)
	k := keyOf("cpu", 0, "host", "a")
	b = checkAdd(t, b, k, 17, 5, boardOf(10, 20, 30, winOf(keyOf("cpu", 10, "host", "a"), 0, true, 5)))
	b = checkAdd(t, b, k, 10, -3, boardOf(10, 20, 30, winOf(keyOf("cpu", 10, "host", "a"), 0, true, 5, -3)))
	b = checkAdd(t, b, k, 20, 0, boardOf(10, 20, 30, winOf(keyOf("cpu", 10, "host", "a"), 0, true, 5, -3), winOf(keyOf("cpu", 20, "host", "a"), 0, true, 0)))
	b = checkAdd(t, b, keyOf("cpu", 0), 19, 8, boardOf(10, 20, 30,
		winOf(keyOf("cpu", 10), 0, true, 8), winOf(keyOf("cpu", 10, "host", "a"), 0, true, 5, -3), winOf(keyOf("cpu", 20, "host", "a"), 0, true, 0)))
	checkAdd(t, b, keyOf("zoo", 0), impl.MaxTime, impl.MaxNumber, boardOf(10, 20, 30,
		winOf(keyOf("cpu", 10), 0, true, 8), winOf(keyOf("cpu", 10, "host", "a"), 0, true, 5, -3), winOf(keyOf("cpu", 20, "host", "a"), 0, true, 0),
		winOf(keyOf("zoo", impl.MaxTime), 0, true, impl.MaxNumber)))
}

func TestPromise11EventsJoinTheirWindow(t *testing.T) {
	b := baseBoard()
	for i, w := range b.Wins {
		if w.Key.Start < 80 {
			continue
		}
		k := copyKey(w.Key)
		k.Start = 0
		for _, time := range []int{w.Key.Start, w.Key.Start + 1, w.Key.Start + 9} {
			if time > impl.MaxTime {
				continue
			}
			for _, value := range []int{0, 7, -7, impl.MaxNumber, -impl.MaxNumber} {
				want := withWin(b, i, func(w *impl.Win) { w.Agg, w.Dirty = plainJoin(w.Agg, oneOf(value)), true })
				checkAdd(t, b, k, time, value, want)
			}
		}
	}
	late := boardOf(10, 1000, 100, b.Wins...)
	checkAdd(t, late, keyOf("disk", 0), 9, 3, withWin(late, 6, func(w *impl.Win) { w.Agg = plainJoin(w.Agg, oneOf(3)) }))
}

func TestPromise11EventsOfFullSums(t *testing.T) {
	for _, a := range goodAggs() {
		if a.Count == 0 {
			continue
		}
		for _, value := range []int{0, 5, -1, 100000} {
			b := boardOf(10, 0, 0, impl.Win{Key: keyOf("cpu", 0), Agg: a, Version: 4})
			checkAdd(t, b, keyOf("cpu", 0), 3, value, boardOf(10, 0, 0, impl.Win{Key: keyOf("cpu", 0), Agg: plainJoin(a, oneOf(value)), Version: 4, Dirty: true}))
		}
	}
}

func TestPromise11NewWindowsStandInTheirPlace(t *testing.T) {
	keys := keysInOrder()
	for i := range keys {
		keys[i].Start -= keys[i].Start % 5
	}
	keys = slices.CompactFunc(keys, sameKey)
	if len(keys) > impl.MaxWindows {
		keys = keys[:impl.MaxWindows]
	}
	for i, k := range keys {
		var wins []impl.Win
		for j, other := range keys {
			if j != i {
				wins = append(wins, winOf(other, j+1, j%2 == 0, j))
			}
		}
		want := slices.Insert(slices.Clone(wins), i, winOf(k, 0, true, 9))
		bare := copyKey(k)
		bare.Start = 0
		checkAdd(t, boardOf(5, topHorizon, 0, wins...), bare, k.Start, 9, boardOf(5, topHorizon, 0, want...))
	}
}

func TestPromise11EventsAtEachSize(t *testing.T) {
	for _, size := range []int{1, 2, 7, 10, topSize - 1, topSize} {
		for _, time := range []int{0, 1, 6, 7, 9, 10, topSize - 1, topSize, topSize + 1, impl.MaxTime - 1, impl.MaxTime} {
			b := boardOf(size, 0, 0)
			checkAdd(t, b, keyOf("m", 0), time, 1, boardOf(size, 0, 0, winOf(keyOf("m", time/size*size), 0, true, 1)))
		}
	}
}

func TestPromise11LateEvents(t *testing.T) {
	for _, c := range []struct{ horizon, mark int }{
		{0, 1}, {0, 10}, {0, 30}, {20, 30}, {50, 51}, {50, 100}, {1, 2}, {topHorizon, topHorizon + 1},
		{topHorizon, impl.MaxTime}, {0, impl.MaxTime}, {1, impl.MaxTime},
	} {
		least := c.mark - c.horizon
		for _, b := range []impl.Board{boardOf(10, c.horizon, c.mark), boardOf(10, c.horizon, c.mark, winsFrom(12)...)} {
			checkNotAdded(t, "just late", b, keyOf("cpu", 0), least-1, 1, impl.WinLate)
			checkNotAdded(t, "a new key that is late", b, keyOf("aaa", 0), least-1, 1, impl.WinLate)
			checkNotAdded(t, "as late as can be", b, keyOf("cpu", 0), 0, 1, impl.WinLate)
			checkAdd(t, b, keyOf("cpu", 0), least, 1, withEvent(b, keyOf("cpu", 0), least, 1))
			checkAdd(t, b, keyOf("cpu", 0), c.mark, 1, withEvent(b, keyOf("cpu", 0), c.mark, 1))
			checkAdd(t, b, keyOf("cpu", 0), impl.MaxTime, 1, withEvent(b, keyOf("cpu", 0), impl.MaxTime, 1))
		}
	}
	for _, c := range []struct{ horizon, mark int }{{0, 0}, {1, 1}, {1, 0}, {50, 0}, {50, 49}, {50, 50}, {topHorizon, 0}, {topHorizon, topHorizon}} {
		b := boardOf(10, c.horizon, c.mark)
		checkAdd(t, b, keyOf("cpu", 0), 0, 1, withEvent(b, keyOf("cpu", 0), 0, 1))
	}
}

// What is late is told by the time of the event, not by where its window begins.
func TestPromise11LateWithinAWindow(t *testing.T) {
	for offset := range 10 {
		b := boardOf(10, 20, 40+offset, winOf(keyOf("cpu", 20), 5, false, 1))
		for time := 20; time < 30; time++ {
			if time < 20+offset {
				checkNotAdded(t, "late in its window", b, keyOf("cpu", 0), time, 4, impl.WinLate)
				continue
			}
			checkAdd(t, b, keyOf("cpu", 0), time, 4, withEvent(b, keyOf("cpu", 0), time, 4))
		}
	}
}

func TestPromise11FullBoards(t *testing.T) {
	full := boardOf(10, 0, 0, winsFrom(impl.MaxWindows)...)
	for i, w := range full.Wins {
		checkAdd(t, full, keyOf("cpu", 0), w.Key.Start+i%10, 2, withEvent(full, keyOf("cpu", 0), w.Key.Start, 2))
	}
	for _, k := range []impl.Key{keyOf("aaa", 0), keyOf("cpu", 0, "a", "b"), keyOf("zzz", 0)} {
		checkNotAdded(t, "a window more", full, k, 0, 2, impl.WinFull)
		checkNotAdded(t, "a window more", full, k, impl.MaxTime, 2, impl.WinFull)
	}
	checkNotAdded(t, "a later window", full, keyOf("cpu", 0), 10*impl.MaxWindows, 2, impl.WinFull)
	checkAdd(t, full, keyOf("cpu", 0), 10*impl.MaxWindows-1, 2, withEvent(full, keyOf("cpu", 0), 10*impl.MaxWindows-1, 2))
	less := boardOf(10, 0, 0, winsFrom(impl.MaxWindows-1)...)
	for _, k := range []impl.Key{keyOf("aaa", 0), keyOf("cpu", 0, "a", "b"), keyOf("zzz", 0)} {
		got := checkAdd(t, less, k, 5, 2, withEvent(less, k, 5, 2))
		checkNotAdded(t, "a window more", got, keyOf("cpu", 0), 10*impl.MaxWindows, 2, impl.WinFull)
	}
}

// Of several codes that fit the first in the chapter's order is told.
func TestPromise11CodesInOrder(t *testing.T) {
	full := boardOf(10, 20, 500, winsFrom(impl.MaxWindows)...)
	checkNotAdded(t, "late and full", full, keyOf("zzz", 0), 479, 1, impl.WinLate)
	checkNotAdded(t, "full", full, keyOf("zzz", 0), 480, 1, impl.WinFull)
	for _, k := range []impl.Key{keyOf("zz9", 0), keyOf("zzz", 10), {}} {
		checkNotAdded(t, "no key, late and full", full, k, 479, 1, impl.WinBad)
		checkNotAdded(t, "no key and full", full, k, 480, 1, impl.WinBad)
	}
	for _, value := range []int{-impl.MaxNumber - 1, impl.MaxNumber + 1} {
		checkNotAdded(t, "no value, late and full", full, keyOf("zzz", 0), 479, value, impl.WinBad)
		checkNotAdded(t, "no value and full", full, keyOf("zzz", 0), 480, value, impl.WinBad)
	}
	checkNotAdded(t, "no time, late and full", full, keyOf("zzz", 0), -1, 1, impl.WinBad)
	checkNotAdded(t, "no time and full", full, keyOf("zzz", 0), impl.MaxTime+1, 1, impl.WinBad)
	full.Wins = append(full.Wins, winOf(keyOf("zzz", 0), 1, false, 1))
	if got, code := impl.AddEvent(full, keyOf("zzz", 0), 479, 1); code != impl.WinBad || !sameBoard(got, impl.Board{}) {
		t.Errorf("a board of too many windows: %v, %d", got, code)
	}
}

func checkRaise(t *testing.T, b impl.Board, time int, want int) {
	t.Helper()
	as := copyBoard(b)
	if want == impl.WinOk {
		as.Mark = time
	}
	if got, code := impl.RaiseMark(b, time); code != want || !sameBoard(got, as) {
		t.Errorf("RaiseMark(%v, %d) = %v, %d, want %v and %d", b, time, got, code, as, want)
	}
}

func TestPromise11Marks(t *testing.T) {
	for _, mark := range []int{0, 1, 30, 100, impl.MaxTime - 1, impl.MaxTime} {
		for _, b := range []impl.Board{boardOf(1, 0, mark), boardOf(10, 20, mark, winsFrom(impl.MaxWindows)...), boardOf(10, topHorizon, mark, baseBoard().Wins...)} {
			checkRaise(t, b, mark, impl.WinOk)
			checkRaise(t, b, impl.MaxTime, impl.WinOk)
			if mark < impl.MaxTime {
				checkRaise(t, b, mark+1, impl.WinOk)
			}
			checkRaise(t, b, mark-1, impl.WinBad)
			if mark > 0 {
				checkRaise(t, b, 0, impl.WinBad)
			}
			for _, time := range append([]int{-1, -2, impl.MaxTime + 1, impl.MaxTime + 2}, farInts()...) {
				checkRaise(t, b, time, impl.WinBad)
			}
		}
	}
}

// drawBoard draws a good one; many windows are near the mark.
func drawBoard(r *rand.Rand) impl.Board {
	b := boardOf([]int{1, 5, 10, 60}[r.Intn(4)], r.Intn(100), r.Intn(400))
	many, starts := r.Intn(impl.MaxWindows+1), 40
	if r.Intn(4) == 0 {
		many, starts = impl.MaxWindows, 4000
	}
	for range many {
		k := drawWinKey(r)
		k.Start = r.Intn(starts) * b.Size
		w := impl.Win{Key: k, Agg: drawAgg(r), Version: r.Intn(4), Dirty: r.Intn(2) == 0}
		if w.Agg.Count == 0 {
			w.Agg = oneOf(drawValue(r))
		}
		w.Dirty = w.Dirty || w.Version == 0
		if r.Intn(40) == 0 {
			w.Version = topWin - r.Intn(2)
		}
		b.Wins = append(b.Wins, w)
	}
	sort.SliceStable(b.Wins, func(i int, j int) bool { return keyOrder(b.Wins[i].Key) < keyOrder(b.Wins[j].Key) })
	b.Wins = slices.CompactFunc(b.Wins, func(a impl.Win, b impl.Win) bool { return sameKey(a.Key, b.Key) })
	return b
}

func drawWinKey(r *rand.Rand) impl.Key {
	metric := []string{"cpu", "CPU", "disk"}[r.Intn(3)]
	switch r.Intn(4) {
	case 0:
		return keyOf(metric, 0, "host", "a")
	case 1:
		return keyOf(metric, 0, "host", "b")
	case 2:
		return keyOf(metric, 0, "host", "a", "rack", "q")
	}
	return keyOf(metric, 0)
}

func TestPromise11DrawnEvents(t *testing.T) {
	r := rand.New(rand.NewSource(111))
	var seen [4]int
	for range 3000 {
		b := drawBoard(r)
		checkBoard(t, "a drawn one", b, true)
		k, time, value := drawWinKey(r), r.Intn(2500), drawValue(r)
		if r.Intn(2) == 0 {
			time = max(0, b.Mark-b.Horizon+r.Intn(5)-2)
		}
		want := withEvent(b, k, time, value)
		switch {
		case time < b.Mark-b.Horizon:
			seen[impl.WinLate]++
			checkNotAdded(t, "late", b, k, time, value, impl.WinLate)
		case len(want.Wins) > impl.MaxWindows:
			seen[impl.WinFull]++
			checkNotAdded(t, "full", b, k, time, value, impl.WinFull)
		default:
			seen[impl.WinOk]++
			checkAdd(t, b, k, time, value, want)
		}
	}
	if seen[impl.WinOk] < 500 || seen[impl.WinLate] < 500 || seen[impl.WinFull] < 10 {
		t.Errorf("codes seen: %v", seen)
	}
}
