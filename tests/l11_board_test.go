package tests

import (
	"math"
	"slices"
	"testing"

	"loop.example/g00150/impl"
)

const topSize = 100000
const topHorizon = 1000000
const topWin = 1000000

// oneOf is what one event of this value is.
func oneOf(value int) impl.Agg {
	return manyOf(1, value, plainBucket(value))
}

func winOf(k impl.Key, version int, dirty bool, values ...int) impl.Win {
	var aggs []impl.Agg
	for _, v := range values {
		aggs = append(aggs, oneOf(v))
	}
	return impl.Win{Key: k, Agg: plainJoin(aggs...), Version: version, Dirty: dirty}
}

func boardOf(size int, horizon int, mark int, wins ...impl.Win) impl.Board {
	return impl.Board{Size: size, Horizon: horizon, Mark: mark, Wins: wins}
}

// baseBoard has windows that are new, told, told and dirty again; times from 80 on are not late.
func baseBoard() impl.Board {
	return boardOf(10, 20, 100,
		winOf(keyOf("cpu", 70), 3, false, 5),
		winOf(keyOf("cpu", 80), 0, true, 1, 2),
		winOf(keyOf("cpu", 110), 1, false, 0),
		winOf(keyOf("cpu", 60, "host", "a"), 2, true, -4, 4),
		winOf(keyOf("cpu", 80, "host", "a"), topWin, false, 9),
		winOf(keyOf("cpu", 80, "host", "a", "rack", "b"), topWin-1, true, 77, 1000),
		winOf(keyOf("disk", 0), 1, true, 100000),
		winOf(keyOf("disk", 1000000000, "host", "b"), 7, false, impl.MaxNumber, -impl.MaxNumber))
}

// keyOrder is made of a key's words so that texts compare as the chapter's keys do.
func keyOrder(k impl.Key) string {
	out := k.Metric + "\x00"
	for _, tag := range k.Tags {
		out += "\x02" + tag.Name + "\x01" + tag.Value + "\x00"
	}
	digits := []byte("0000000000")
	for i, n := 9, k.Start; i >= 0; i, n = i-1, n/10 {
		digits[i] += byte(n % 10)
	}
	return out + "\x01" + string(digits)
}

// winsFrom are so many windows of size 10, rising.
func winsFrom(many int) []impl.Win {
	var out []impl.Win
	for i := range many {
		out = append(out, winOf(keyOf("cpu", 10*i), i, i == 0 || i%3 == 1, i))
	}
	return out
}

func sameWin(a impl.Win, b impl.Win) bool {
	return sameKey(a.Key, b.Key) && sameAgg(a.Agg, b.Agg) && a.Version == b.Version && a.Dirty == b.Dirty
}

func sameBoard(a impl.Board, b impl.Board) bool {
	return a.Size == b.Size && a.Horizon == b.Horizon && a.Mark == b.Mark && slices.EqualFunc(a.Wins, b.Wins, sameWin)
}

func copyKey(k impl.Key) impl.Key {
	k.Tags = append([]impl.Tag(nil), k.Tags...)
	return k
}

func copyBoard(b impl.Board) impl.Board {
	var wins []impl.Win
	for _, w := range b.Wins {
		w.Key, w.Agg = copyKey(w.Key), copyAgg(w.Agg)
		wins = append(wins, w)
	}
	b.Wins = wins
	return b
}

// withWin is the board with one of its windows changed.
func withWin(b impl.Board, at int, change func(*impl.Win)) impl.Board {
	out := copyBoard(b)
	change(&out.Wins[at])
	return out
}

func checkBoard(t *testing.T, what string, b impl.Board, good bool) {
	t.Helper()
	if impl.GoodBoard(b) != good {
		t.Errorf("%s: GoodBoard(%v) is not %v", what, b, good)
	}
}

func checkStart(t *testing.T, time int, size int, want int) {
	t.Helper()
	if n, ok := impl.StartOf(time, size); n != want || !ok {
		t.Errorf("StartOf(%d, %d) = %d, %v, want %d and true", time, size, n, ok, want)
	}
}

func checkNoStart(t *testing.T, time int, size int) {
	t.Helper()
	if n, ok := impl.StartOf(time, size); n != 0 || ok {
		t.Errorf("StartOf(%d, %d) = %d, %v, want 0 and false", time, size, n, ok)
	}
}

func TestPromise11StartOfWindows(t *testing.T) {
	for _, c := range []struct{ time, size, want int }{
		{0, 1, 0}, {1, 1, 1}, {17, 1, 17}, {impl.MaxTime, 1, impl.MaxTime}, {impl.MaxTime - 1, 1, impl.MaxTime - 1},
		{0, 10, 0}, {1, 10, 0}, {9, 10, 0}, {10, 10, 10}, {11, 10, 10}, {19, 10, 10}, {20, 10, 20},
		{0, 7, 0}, {6, 7, 0}, {7, 7, 7}, {13, 7, 7}, {14, 7, 14}, {15, 7, 14},
		{0, topSize, 0}, {1, topSize, 0}, {topSize - 1, topSize, 0}, {topSize, topSize, topSize}, {topSize + 1, topSize, topSize},
		{2*topSize - 1, topSize, topSize}, {2 * topSize, topSize, 2 * topSize},
		{impl.MaxTime, topSize, impl.MaxTime}, {impl.MaxTime - 1, topSize, impl.MaxTime - topSize},
		{impl.MaxTime, topSize - 1, 999990000}, {impl.MaxTime, 7, 999999994}, {impl.MaxTime, 3, 999999999},
		{999999994, 7, 999999994}, {999999993, 7, 999999987},
		{5, 6, 0}, {5, 5, 5}, {5, 4, 4}, {5, topSize, 0},
	} {
		checkStart(t, c.time, c.size, c.want)
	}
}

func TestPromise11StartOfEachMultiple(t *testing.T) {
	for _, size := range []int{1, 2, 3, 10, 60, 999, 4096, topSize - 1, topSize} {
		for _, nth := range []int{0, 1, 2, 3, 17, impl.MaxTime/size - 1, impl.MaxTime / size} {
			at := nth * size
			checkStart(t, at, size, at)
			if at > 0 {
				checkStart(t, at-1, size, at-size)
			}
			if at+1 <= impl.MaxTime {
				checkStart(t, at+1, size, (at+1)-(at+1)%size)
			}
			if at+size-1 <= impl.MaxTime {
				checkStart(t, at+size-1, size, at)
			}
		}
	}
}

func TestPromise11StartOfNoTimeOrSize(t *testing.T) {
	for _, size := range append([]int{0, -1, -10, topSize + 1, topSize + 2, 1<<32 + 10}, farInts()...) {
		for _, time := range []int{0, 1, 17, topSize, impl.MaxTime, -1, impl.MaxTime + 1, math.MinInt, math.MaxInt} {
			checkNoStart(t, time, size)
		}
	}
	for _, time := range append([]int{-1, -10, impl.MaxTime + 1, impl.MaxTime + 2, 1<<32 + 10}, farInts()...) {
		for _, size := range []int{1, 2, 10, topSize, 0, topSize + 1} {
			checkNoStart(t, time, size)
		}
	}
}

func TestPromise11BoardNumbers(t *testing.T) {
	wins := []impl.Win{winOf(keyOf("a", 0), 1, false, 1), winOf(keyOf("b", 0), 0, true, 2)}
	for _, n := range []int{1, 2, 7, 10, 99999, topSize} {
		checkBoard(t, "a Size", boardOf(n, 0, 0), true)
		checkBoard(t, "a Size with windows", boardOf(n, 50, 7, wins...), true)
	}
	for _, n := range append([]int{0, -1, topSize + 1, topSize + 2, -10, 1<<32 + 10}, farInts()...) {
		checkBoard(t, "a Size that is none", boardOf(n, 0, 0), false)
		checkBoard(t, "a Size that is none, with windows", boardOf(n, 50, 7, wins...), false)
	}
	for _, n := range []int{0, 1, 50, 999999, topHorizon} {
		checkBoard(t, "a Horizon", boardOf(10, n, 0), true)
		checkBoard(t, "a Horizon with windows", boardOf(10, n, impl.MaxTime, wins...), true)
	}
	for _, n := range append([]int{-1, -2, topHorizon + 1, topHorizon + 2, 1<<32 + 10}, farInts()...) {
		checkBoard(t, "a Horizon that is none", boardOf(10, n, 0), false)
		checkBoard(t, "a Horizon that is none, with windows", boardOf(10, n, 7, wins...), false)
	}
	for _, n := range []int{0, 1, 50, impl.MaxTime - 1, impl.MaxTime} {
		checkBoard(t, "a Mark", boardOf(10, 0, n), true)
		checkBoard(t, "a Mark with windows", boardOf(10, topHorizon, n, wins...), true)
	}
	for _, n := range append([]int{-1, -2, impl.MaxTime + 1, impl.MaxTime + 2, 1<<32 + 10}, farInts()...) {
		checkBoard(t, "a Mark that is none", boardOf(10, 0, n), false)
		checkBoard(t, "a Mark that is none, with windows", boardOf(10, 0, n, wins...), false)
	}
	checkBoard(t, "all at their least", boardOf(1, 0, 0), true)
	checkBoard(t, "all at their greatest", boardOf(topSize, topHorizon, impl.MaxTime, wins...), true)
	checkBoard(t, "nothing at all", impl.Board{}, false)
	checkBoard(t, "an ordinary one", baseBoard(), true)
	empty := boardOf(10, 20, 30)
	empty.Wins = []impl.Win{}
	checkBoard(t, "an empty list of windows", empty, true)
}

func TestPromise11BoardsOfManyWindows(t *testing.T) {
	for many := range impl.MaxWindows + 1 {
		checkBoard(t, "so many windows", boardOf(10, 0, 0, winsFrom(many)...), true)
	}
	for _, many := range []int{impl.MaxWindows + 1, impl.MaxWindows + 2, 80, 256 + 1} {
		checkBoard(t, "too many windows", boardOf(10, 0, 0, winsFrom(many)...), false)
	}
}

func TestPromise11WindowsRiseByKey(t *testing.T) {
	keys := keysInOrder()
	for i := range keys {
		keys[i].Start -= keys[i].Start % 5
	}
	keys = slices.CompactFunc(keys, sameKey)
	for i := range keys {
		for j := range keys {
			pair := []impl.Win{winOf(keys[i], 1, false, 1), winOf(keys[j], 1, true, 2)}
			checkBoard(t, "two windows", boardOf(5, 0, 0, pair...), i < j)
		}
	}
	for place := 1; place < impl.MaxWindows; place++ {
		twice := boardOf(10, 0, 0, winsFrom(impl.MaxWindows)...)
		twice.Wins[place].Key = twice.Wins[place-1].Key
		checkBoard(t, "two alike", twice, false)
		about := boardOf(10, 0, 0, winsFrom(impl.MaxWindows)...)
		about.Wins[place-1], about.Wins[place] = about.Wins[place], about.Wins[place-1]
		checkBoard(t, "two exchanged", about, false)
	}
	apart := boardOf(10, 0, 0, winsFrom(3)...)
	apart.Wins[2].Key = apart.Wins[0].Key
	checkBoard(t, "two alike that are not neighbours", apart, false)
}

func TestPromise11WindowsKeysAreGood(t *testing.T) {
	for place := range baseBoard().Wins {
		for _, k := range badKeys() {
			checkBoard(t, "a key that is none", withWin(baseBoard(), place, func(w *impl.Win) { w.Key = k }), false)
		}
	}
	for _, k := range badKeys() {
		checkBoard(t, "a key alone that is none", boardOf(1, 0, 0, winOf(k, 1, false, 1)), false)
	}
	for _, k := range keysInOrder() {
		checkBoard(t, "a key", boardOf(1, 0, 0, winOf(k, 1, false, 1)), true)
	}
}

func TestPromise11WindowsStartAtMultiples(t *testing.T) {
	for _, c := range []struct {
		size, start int
		good        bool
	}{
		{1, 0, true}, {1, 1, true}, {1, impl.MaxStart, true}, {10, 0, true}, {10, 10, true}, {10, 9, false}, {10, 11, false},
		{10, 5, false}, {10, 1, false}, {10, 990, true}, {10, 995, false}, {10, impl.MaxStart, true}, {10, impl.MaxStart - 1, false},
		{10, impl.MaxStart - 10, true}, {7, 999999994, true}, {7, impl.MaxStart, false}, {7, 14, true}, {7, 15, false}, {7, 13, false},
		{topSize, topSize, true}, {topSize, topSize - 1, false}, {topSize, topSize + 1, false}, {topSize, impl.MaxStart, true},
		{topSize, 0, true}, {topSize, topSize / 2, false}, {topSize, 1, false}, {2, 3, false}, {3, 2, false}, {2, 4, true},
	} {
		checkBoard(t, "a Start", boardOf(c.size, 0, 0, winOf(keyOf("cpu", c.start), 1, false, 1)), c.good)
		checkBoard(t, "a Start between others", boardOf(c.size, 0, 0, winOf(keyOf("a", 0), 1, false, 1), winOf(keyOf("cpu", c.start, "a", "b"), 1, true, 1), winOf(keyOf("z", 0), 1, false, 1)), c.good)
	}
}

func TestPromise11WindowsAggsAreGood(t *testing.T) {
	for place := range baseBoard().Wins {
		for _, c := range badAggs() {
			checkBoard(t, c.what, withWin(baseBoard(), place, func(w *impl.Win) { w.Agg = c.agg }), false)
		}
		for _, a := range goodAggs() {
			checkBoard(t, "an agg that is good", withWin(baseBoard(), place, func(w *impl.Win) { w.Agg = a }), a.Count > 0)
		}
		checkBoard(t, "no agg", withWin(baseBoard(), place, func(w *impl.Win) { w.Agg = impl.Agg{} }), false)
		checkBoard(t, "an agg of no events", withWin(baseBoard(), place, func(w *impl.Win) { w.Agg = noAgg() }), false)
	}
}

func TestPromise11WindowsVersions(t *testing.T) {
	for place := range baseBoard().Wins {
		for _, n := range []int{0, 1, 2, 500, topWin - 1, topWin} {
			for _, dirty := range []bool{false, true} {
				b := withWin(baseBoard(), place, func(w *impl.Win) { w.Version, w.Dirty = n, dirty })
				checkBoard(t, "a Version", b, dirty || n > 0)
			}
		}
		for _, n := range append([]int{-1, -2, topWin + 1, topWin + 2, -topWin, 1<<32 + 1}, farInts()...) {
			for _, dirty := range []bool{false, true} {
				b := withWin(baseBoard(), place, func(w *impl.Win) { w.Version, w.Dirty = n, dirty })
				checkBoard(t, "a Version that is none", b, false)
			}
		}
	}
}
