package tests

import (
	"math"
	"math/rand"
	"slices"
	"sort"
	"strconv"
	"testing"

	"loop.example/g00150/impl"
)

func sameTold(a impl.Told, b impl.Told) bool {
	return sameKey(a.Key, b.Key) && a.Version == b.Version && sameAgg(a.Agg, b.Agg)
}

func sameTolds(a []impl.Told, b []impl.Told) bool {
	return slices.EqualFunc(a, b, sameTold)
}

func copyTolds(l []impl.Told) []impl.Told {
	var out []impl.Told
	for _, told := range l {
		told.Key, told.Agg = copyKey(told.Key), copyAgg(told.Agg)
		out = append(out, told)
	}
	return out
}

func toldOf(k impl.Key, version int, values ...int) impl.Told {
	w := winOf(k, version, false, values...)
	return impl.Told{Key: w.Key, Version: version, Agg: w.Agg}
}

// plainTell is what is told by the chapter's words, and the board behind it; and
// whether it is told at all.
func plainTell(b impl.Board) (impl.Board, []impl.Told, bool) {
	out := copyBoard(b)
	var told []impl.Told
	for i, w := range b.Wins {
		if !w.Dirty {
			continue
		}
		if w.Version == topWin {
			return copyBoard(b), nil, false
		}
		out.Wins[i].Version, out.Wins[i].Dirty = w.Version+1, false
		told = append(told, impl.Told{Key: w.Key, Version: w.Version + 1, Agg: w.Agg})
	}
	return out, told, true
}

func checkTell(t *testing.T, b impl.Board) impl.Board {
	t.Helper()
	want, wantTold, ok := plainTell(b)
	wantCode := impl.WinOk
	if !ok {
		wantCode = impl.WinBad
	}
	got, told, code := impl.TellDirty(b)
	if code != wantCode || !sameBoard(got, want) || !sameTolds(told, wantTold) {
		t.Fatalf("TellDirty(%v) = %v, %v, %d, want %v, %v, %d", b, got, told, code, want, wantTold, wantCode)
	}
	if !impl.GoodBoard(got) {
		t.Fatalf("TellDirty(%v) is not good", b)
	}
	return got
}

func TestPromise11DirtyWindowsAreTold(t *testing.T) {
	b := baseBoard()
	got, told, code := impl.TellDirty(b)
	want := []impl.Told{
		toldOf(keyOf("cpu", 80), 1, 1, 2),
		toldOf(keyOf("cpu", 60, "host", "a"), 3, -4, 4),
		toldOf(keyOf("cpu", 80, "host", "a", "rack", "b"), topWin, 77, 1000),
		toldOf(keyOf("disk", 0), 2, 100000),
	}
	behind := boardOf(10, 20, 100,
		winOf(keyOf("cpu", 70), 3, false, 5),
		winOf(keyOf("cpu", 80), 1, false, 1, 2),
		winOf(keyOf("cpu", 110), 1, false, 0),
		winOf(keyOf("cpu", 60, "host", "a"), 3, false, -4, 4),
		winOf(keyOf("cpu", 80, "host", "a"), topWin, false, 9),
		winOf(keyOf("cpu", 80, "host", "a", "rack", "b"), topWin, false, 77, 1000),
		winOf(keyOf("disk", 0), 2, false, 100000),
		winOf(keyOf("disk", 1000000000, "host", "b"), 7, false, impl.MaxNumber, -impl.MaxNumber))
	if code != impl.WinOk || !sameTolds(told, want) || !sameBoard(got, behind) {
		t.Errorf("TellDirty = %v, %v, %d, want %v, %v", got, told, code, behind, want)
	}
	again := checkTell(t, got)
	if !sameBoard(again, behind) {
		t.Errorf("with nothing dirty: %v", again)
	}
}

func TestPromise11NothingDirty(t *testing.T) {
	clean := boardOf(10, 20, 30, winsFrom(impl.MaxWindows)...)
	for i := range clean.Wins {
		clean.Wins[i].Version, clean.Wins[i].Dirty = i+1, false
	}
	for _, b := range []impl.Board{boardOf(10, 20, 30), clean, boardOf(1, 0, impl.MaxTime)} {
		got, told, code := impl.TellDirty(b)
		if code != impl.WinOk || len(told) != 0 || !sameBoard(got, b) {
			t.Errorf("TellDirty(%v) = %v, %v, %d", b, got, told, code)
		}
	}
}

func TestPromise11EachSetOfDirtyWindows(t *testing.T) {
	for set := range 1 << 7 {
		b := boardOf(10, 20, 30, winsFrom(7)...)
		for i := range b.Wins {
			b.Wins[i].Dirty = set>>i&1 == 1
			b.Wins[i].Version = i + 1
			if b.Wins[i].Dirty {
				b.Wins[i].Version = i
			}
		}
		checkTell(t, b)
	}
	all := boardOf(10, 20, 30, winsFrom(impl.MaxWindows)...)
	for i := range all.Wins {
		all.Wins[i].Dirty = true
	}
	checkTell(t, all)
}

func TestPromise11GreatestVersions(t *testing.T) {
	for place := range impl.MaxWindows {
		for _, c := range []struct {
			version int
			dirty   bool
			code    int
		}{
			{topWin - 1, true, impl.WinOk}, {topWin - 1, false, impl.WinOk}, {topWin, false, impl.WinOk}, {topWin, true, impl.WinBad}, {topWin - 2, true, impl.WinOk},
		} {
			b := boardOf(10, 20, 30, winsFrom(impl.MaxWindows)...)
			b.Wins[place].Version, b.Wins[place].Dirty = c.version, c.dirty
			checkBoard(t, "near the greatest Version", b, true)
			checkTell(t, b)
			if _, told, code := impl.TellDirty(b); code != c.code || code != impl.WinOk && len(told) != 0 {
				t.Errorf("Version %d, dirty %v: %v, %d, want code %d", c.version, c.dirty, told, code, c.code)
			}
		}
	}
}

func TestPromise11VersionsRiseByOne(t *testing.T) {
	b := boardOf(10, 20, 30)
	for round := range 50 {
		got, code := impl.AddEvent(b, keyOf("cpu", 0), 15, round)
		if code != impl.WinOk {
			t.Fatal(code)
		}
		for range round % 3 {
			got, _ = impl.AddEvent(got, keyOf("cpu", 0), 16, 1)
		}
		got, told, code := impl.TellDirty(got)
		if code != impl.WinOk || len(told) != 1 || told[0].Version != round+1 || got.Wins[0].Version != round+1 {
			t.Fatalf("round %d: told %v, %d", round, told, code)
		}
		b = got
	}
}

// plainExpire is the board by the chapter's words, and which keys go.
func plainExpire(b impl.Board) (impl.Board, []impl.Key) {
	out := copyBoard(b)
	out.Wins = nil
	var gone []impl.Key
	for _, w := range copyBoard(b).Wins {
		if w.Key.Start+b.Size+b.Horizon <= b.Mark {
			gone = append(gone, w.Key)
		} else {
			out.Wins = append(out.Wins, w)
		}
	}
	return out, gone
}

func checkExpire(t *testing.T, b impl.Board) (impl.Board, int) {
	t.Helper()
	want, wantGone := plainExpire(b)
	got, gone, ok := impl.ExpireWins(b)
	if !ok || !sameBoard(got, want) || !slices.EqualFunc(gone, wantGone, sameKey) {
		t.Fatalf("ExpireWins(%v) = %v, %v, %v, want %v, %v", b, got, gone, ok, want, wantGone)
	}
	if !impl.GoodBoard(got) {
		t.Fatalf("ExpireWins(%v) is not good", b)
	}
	return got, len(gone)
}

func TestPromise11WindowsExpire(t *testing.T) {
	b := baseBoard()
	got, gone, ok := impl.ExpireWins(b)
	want := boardOf(10, 20, 100, b.Wins[1], b.Wins[2], b.Wins[4], b.Wins[5], b.Wins[7])
	if !ok || !sameBoard(got, want) || !slices.EqualFunc(gone, []impl.Key{keyOf("cpu", 70), keyOf("cpu", 60, "host", "a"), keyOf("disk", 0)}, sameKey) {
		t.Errorf("ExpireWins = %v, %v, %v, want %v", got, gone, ok, want)
	}
	for _, c := range []struct{ size, horizon, start, mark, gone int }{
		{10, 20, 0, 29, 0}, {10, 20, 0, 30, 1}, {10, 20, 0, 31, 1}, {10, 20, 10, 39, 0}, {10, 20, 10, 40, 1},
		{1, 0, 0, 0, 0}, {1, 0, 0, 1, 1}, {1, 0, 5, 5, 0}, {1, 0, 5, 6, 1},
		{topSize, topHorizon, 0, topSize + topHorizon - 1, 0}, {topSize, topHorizon, 0, topSize + topHorizon, 1},
		{topSize, 0, impl.MaxTime - topSize, impl.MaxTime, 1}, {topSize, 0, impl.MaxTime - topSize, impl.MaxTime - 1, 0},
		{1, 0, impl.MaxTime - 1, impl.MaxTime, 1}, {1, 0, impl.MaxTime, impl.MaxTime, 0}, {topSize, topHorizon, impl.MaxTime, impl.MaxTime, 0},
		{10, 0, 20, 30, 1}, {10, 0, 20, 29, 0}, {10, 1, 20, 30, 0}, {10, 1, 20, 31, 1},
	} {
		for _, dirty := range []bool{false, true} {
			one := boardOf(c.size, c.horizon, c.mark, winOf(keyOf("cpu", c.start, "a", "b"), 3, dirty, 1))
			checkBoard(t, "one window", one, true)
			if _, many := checkExpire(t, one); many != c.gone {
				t.Errorf("%v: %d go, want %d", c, many, c.gone)
			}
		}
	}
}

func TestPromise11AllOrNoneExpire(t *testing.T) {
	for _, many := range []int{0, 1, 2, impl.MaxWindows} {
		for _, c := range []struct{ mark, gone int }{{0, 0}, {29, 0}, {30, min(many, 1)}, {impl.MaxTime, many}, {10*many + 20, many}} {
			b := boardOf(10, 20, c.mark, winsFrom(many)...)
			got, gone := checkExpire(t, b)
			if gone != c.gone {
				t.Errorf("of %d windows %d go at %d, want %d", many, gone, c.mark, c.gone)
			}
			if _, more := checkExpire(t, got); more != 0 {
				t.Errorf("%d more go", more)
			}
		}
	}
	for mark := range 500 {
		checkExpire(t, boardOf(10, 20, mark, winsFrom(impl.MaxWindows)...))
	}
}

// A window that went and comes again begins anew.
func TestPromise11WindowsComeAgain(t *testing.T) {
	b := boardOf(10, 0, 20, winOf(keyOf("cpu", 10), 5, true, 1), winOf(keyOf("cpu", 20), 6, false, 2))
	b, _ = checkExpire(t, b)
	b.Mark = 10
	b = checkAdd(t, b, keyOf("cpu", 0), 11, 7, boardOf(10, 0, 10, winOf(keyOf("cpu", 10), 0, true, 7), winOf(keyOf("cpu", 20), 6, false, 2)))
	checkTell(t, b)
}

func TestPromise11WindowsAreFound(t *testing.T) {
	r := rand.New(rand.NewSource(112))
	boards := []impl.Board{baseBoard(), boardOf(10, 20, 30), boardOf(10, 0, 0, winsFrom(impl.MaxWindows)...)}
	for range 60 {
		boards = append(boards, drawBoard(r))
	}
	for _, b := range boards {
		keys := append(keysInOrder(), keyOf("cpu", 0), keyOf("cpu", 395), keyOf("cpu", 400), keyOf("disk", 0, "host", "a"))
		for _, w := range b.Wins {
			keys = append(keys, w.Key)
			for _, start := range []int{w.Key.Start - 1, w.Key.Start + 1, w.Key.Start + b.Size, 0} {
				other := copyKey(w.Key)
				other.Start = start
				keys = append(keys, other)
			}
			keys = append(keys, impl.Key{Metric: w.Key.Metric, Start: w.Key.Start})
		}
		for _, k := range keys {
			checkFound(t, b, k)
		}
	}
}

func checkFound(t *testing.T, b impl.Board, k impl.Key) {
	t.Helper()
	var want impl.Win
	at := slices.IndexFunc(b.Wins, func(w impl.Win) bool { return sameKey(w.Key, k) })
	if at >= 0 {
		want = b.Wins[at]
	}
	if w, ok := impl.WinOf(b, k); ok != (at >= 0) || !sameWin(w, want) {
		t.Errorf("WinOf(%v, %v) = %v, %v, want %v", b, k, w, ok, want)
	}
}

// plainLast looks through the whole list for each key.
func plainLast(l []impl.Told) []impl.Told {
	last := map[string]impl.Told{}
	var forms []string
	for _, told := range l {
		form := keyOrder(told.Key)
		before, has := last[form]
		if !has {
			forms = append(forms, form)
		}
		if !has || told.Version >= before.Version {
			last[form] = told
		}
	}
	sort.Strings(forms)
	var out []impl.Told
	for _, form := range forms {
		out = append(out, last[form])
	}
	return out
}

func checkLast(t *testing.T, what string, l []impl.Told, want []impl.Told) {
	t.Helper()
	if got, ok := impl.LastTold(l); !ok || !sameTolds(got, want) {
		t.Errorf("%s: LastTold(%v) = %v, %v, want %v", what, l, got, ok, want)
	}
}

func TestPromise11LastOfEachKey(t *testing.T) {
	a, b, c := keyOf("cpu", 10), keyOf("cpu", 20), keyOf("cpu", 10, "host", "a")
	checkLast(t, "none", nil, nil)
	checkLast(t, "an empty list", []impl.Told{}, nil)
	checkLast(t, "one", []impl.Told{toldOf(a, 1, 5)}, []impl.Told{toldOf(a, 1, 5)})
	checkLast(t, "two keys", []impl.Told{toldOf(b, 1, 5), toldOf(a, 2, 6)}, []impl.Told{toldOf(a, 2, 6), toldOf(b, 1, 5)})
	checkLast(t, "three keys", []impl.Told{toldOf(c, 1, 5), toldOf(b, 2, 6), toldOf(a, 3, 7)}, []impl.Told{toldOf(a, 3, 7), toldOf(b, 2, 6), toldOf(c, 1, 5)})
	checkLast(t, "the same Version", []impl.Told{toldOf(a, 2, 5), toldOf(a, 2, 6)}, []impl.Told{toldOf(a, 2, 6)})
	checkLast(t, "the same Version with others between", []impl.Told{toldOf(a, 2, 5), toldOf(b, 9, 1), toldOf(a, 2, 6), toldOf(a, 1, 7)}, []impl.Told{toldOf(a, 2, 6), toldOf(b, 9, 1)})
	checkLast(t, "Versions about 0", []impl.Told{toldOf(a, -1, 5), toldOf(a, 0, 6), toldOf(a, -2, 7)}, []impl.Told{toldOf(a, 0, 6)})
	checkLast(t, "any Versions", []impl.Told{toldOf(a, math.MinInt, 5), toldOf(b, math.MaxInt, 6), toldOf(b, math.MinInt, 7), toldOf(a, math.MinInt, 8)}, []impl.Told{toldOf(a, math.MinInt, 8), toldOf(b, math.MaxInt, 6)})
}

func TestPromise11VersionsInAnyOrder(t *testing.T) {
	k, other := keyOf("cpu", 10, "host", "a"), keyOf("cpu", 10)
	row := []impl.Told{toldOf(k, 1, 1), toldOf(k, 2, 2), toldOf(k, 3, 3), toldOf(other, 2, 4), toldOf(other, 7, 5)}
	eachOrder(row, 0, func(l []impl.Told) {
		checkLast(t, "in any order", l, []impl.Told{toldOf(other, 7, 5), toldOf(k, 3, 3)})
	})
	same := []impl.Told{toldOf(k, 3, 1), toldOf(k, 3, 2), toldOf(k, 3, 3), toldOf(k, 2, 4), toldOf(other, 3, 5)}
	eachOrder(same, 0, func(l []impl.Told) {
		checkLast(t, "with the same Version", l, plainLast(l))
	})
}

func TestPromise11LastOfMany(t *testing.T) {
	r := rand.New(rand.NewSource(113))
	for _, many := range []int{0, 1, 2, 3, 11, 12, 13, 50, 199, 200} {
		for _, keys := range []int{1, 2, 7, 200} {
			var l []impl.Told
			for i := range many {
				k := drawWinKey(r)
				k.Start = r.Intn(keys)
				l = append(l, toldOf(k, r.Intn(4), i))
			}
			checkLast(t, "drawn", l, plainLast(l))
		}
	}
	for _, many := range []int{200, 201, 202, 400} {
		var apart, alike []impl.Told
		for i := range many {
			apart = append(apart, toldOf(keyOf("cpu", many-i), 1, i))
			alike = append(alike, toldOf(keyOf("cpu", 0), 1, i))
		}
		if many == 200 {
			checkLast(t, "200 keys", apart, plainLast(apart))
			checkLast(t, "200 of one key", alike, alike[199:])
			continue
		}
		for _, l := range [][]impl.Told{apart, alike} {
			if got, ok := impl.LastTold(l); ok || len(got) != 0 {
				t.Errorf("of %d Tolds: %v, %v", many, got, ok)
			}
		}
	}
}

// A board holds nothing but what its events say; plainBoard keeps the events themselves.
type plainBoard struct {
	size, horizon, mark int
	events              map[string][]int
	keys                map[string]impl.Key
	versions            map[string]int
	dirty               map[string]bool
}

func (p *plainBoard) board() impl.Board {
	var forms []string
	for form := range p.events {
		forms = append(forms, form)
	}
	sort.Strings(forms)
	out := boardOf(p.size, p.horizon, p.mark)
	for _, form := range forms {
		out.Wins = append(out.Wins, winOf(p.keys[form], p.versions[form], p.dirty[form], p.events[form]...))
	}
	return out
}

func (p *plainBoard) add(k impl.Key, time int, value int) int {
	k.Start = time / p.size * p.size
	form := keyOrder(k)
	if time < p.mark-p.horizon {
		return impl.WinLate
	}
	if _, has := p.events[form]; !has && len(p.events) == impl.MaxWindows {
		return impl.WinFull
	}
	p.events[form] = append(p.events[form], value)
	p.keys[form], p.dirty[form] = k, true
	return impl.WinOk
}

func (p *plainBoard) tellDirty() []impl.Told {
	var out []impl.Told
	for _, w := range p.board().Wins {
		if form := keyOrder(w.Key); p.dirty[form] {
			p.versions[form]++
			p.dirty[form] = false
			out = append(out, toldOf(w.Key, p.versions[form], p.events[form]...))
		}
	}
	return out
}

func (p *plainBoard) expire() []impl.Key {
	var out []impl.Key
	for _, w := range p.board().Wins {
		if w.Key.Start+p.size+p.horizon <= p.mark {
			out = append(out, w.Key)
			form := keyOrder(w.Key)
			delete(p.events, form)
			delete(p.keys, form)
			delete(p.versions, form)
			delete(p.dirty, form)
		}
	}
	return out
}

func TestPromise11LongPlays(t *testing.T) {
	for seed := range 10 {
		playBoard(t, rand.New(rand.NewSource(int64(1140+seed))), []int{1, 10, 60}[seed%3], []int{0, 50, 300}[seed/3%3])
	}
}

func playBoard(t *testing.T, r *rand.Rand, size int, horizon int) {
	t.Helper()
	p := &plainBoard{size, horizon, 0, map[string][]int{}, map[string]impl.Key{}, map[string]int{}, map[string]bool{}}
	b := boardOf(size, horizon, 0)
	var all []impl.Told
	for step := range 500 {
		what := strconv.Itoa(step)
		switch r.Intn(12) {
		case 0:
			time := p.mark + r.Intn(3*size)
			got, code := impl.RaiseMark(b, time)
			p.mark = time
			if b = got; code != impl.WinOk {
				t.Fatalf("%s: RaiseMark tells %d", what, code)
			}
		case 1:
			got, told, code := impl.TellDirty(b)
			if b = got; code != impl.WinOk || !sameTolds(told, p.tellDirty()) {
				t.Fatalf("%s: TellDirty tells %v, %d", what, told, code)
			}
			all = append(all, told...)
		case 2:
			got, gone, ok := impl.ExpireWins(b)
			if b = got; !ok || !slices.EqualFunc(gone, p.expire(), sameKey) {
				t.Fatalf("%s: ExpireWins tells %v, %v", what, gone, ok)
			}
		default:
			k, time, value := drawWinKey(r), max(0, p.mark-horizon-2*size+r.Intn(horizon+6*size)), drawValue(r)
			got, code := impl.AddEvent(b, k, time, value)
			if want := p.add(k, time, value); code != want {
				t.Fatalf("%s: AddEvent tells %d, want %d", what, code, want)
			}
			b = got
		}
		if want := p.board(); !sameBoard(b, want) || !impl.GoodBoard(b) {
			t.Fatalf("%s: the board is %v, want %v", what, b, want)
		}
	}
	for from := 0; from < len(all); from += 50 {
		l := all[from:min(len(all), from+200)]
		checkLast(t, "what was told", l, plainLast(l))
	}
}
