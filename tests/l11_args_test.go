package tests

import (
	"math"
	"math/rand"
	"reflect"
	"slices"
	"testing"

	"loop.example/g00150/impl"
)

type badBoard struct {
	what  string
	board impl.Board
}

// badBoards break one of the chapter's words each, by one where that is told.
func badBoards() []badBoard {
	var out []badBoard
	add := func(what string, change func(*impl.Board)) {
		b := baseBoard()
		change(&b)
		out = append(out, badBoard{what, b})
	}
	for _, n := range append([]int{0, -1, topSize + 1, 20, 7, -10}, farInts()...) {
		add("a Size that is none, or none of its windows", func(b *impl.Board) { b.Size = n })
	}
	for _, n := range append([]int{-1, topHorizon + 1}, farInts()...) {
		add("a Horizon that is none", func(b *impl.Board) { b.Horizon = n })
	}
	for _, n := range append([]int{-1, impl.MaxTime + 1}, farInts()...) {
		add("a Mark that is none", func(b *impl.Board) { b.Mark = n })
	}
	add("too many windows", func(b *impl.Board) { b.Wins = winsFrom(impl.MaxWindows + 1) })
	add("far too many windows", func(b *impl.Board) { b.Wins = winsFrom(1000) })
	add("a window twice", func(b *impl.Board) { b.Wins = append(b.Wins, b.Wins[len(b.Wins)-1]) })
	add("windows that fall", func(b *impl.Board) { slices.Reverse(b.Wins) })
	for i := range baseBoard().Wins {
		addBadWins(i, add)
	}
	return append(out, badBoard{"nothing at all", impl.Board{}})
}

func addBadWins(i int, add func(what string, change func(*impl.Board))) {
	if i > 0 {
		add("two windows exchanged", func(b *impl.Board) { b.Wins[i-1], b.Wins[i] = b.Wins[i], b.Wins[i-1] })
		add("two windows of one key", func(b *impl.Board) { b.Wins[i].Key = b.Wins[i-1].Key })
	}
	for j, k := range badKeys() {
		if j%7 == i%7 {
			add("a key that is none", func(b *impl.Board) { b.Wins[i].Key = k })
		}
	}
	for _, n := range append([]int{1, -10, -1, 55, impl.MaxStart + 10}, farInts()...) {
		add("a Start that is none", func(b *impl.Board) { b.Wins[i].Key.Start = n })
	}
	for j, c := range badAggs() {
		if j%40 == i {
			add(c.what, func(b *impl.Board) { b.Wins[i].Agg = c.agg })
		}
	}
	add("no events", func(b *impl.Board) { b.Wins[i].Agg = noAgg() })
	add("no agg", func(b *impl.Board) { b.Wins[i].Agg = impl.Agg{} })
	for _, n := range append([]int{-1, topWin + 1}, farInts()...) {
		add("a Version that is none", func(b *impl.Board) { b.Wins[i].Version, b.Wins[i].Dirty = n, true })
		add("a Version that is none", func(b *impl.Board) { b.Wins[i].Version, b.Wins[i].Dirty = n, false })
	}
	add("a Version of 0 that is not dirty", func(b *impl.Board) { b.Wins[i].Version, b.Wins[i].Dirty = 0, false })
	add("nothing as a window", func(b *impl.Board) { b.Wins[i] = impl.Win{} })
}

func checkBadBoard(t *testing.T, what string, b impl.Board) {
	t.Helper()
	checkBoard(t, what, b, false)
	for _, k := range append(badKeys()[:9], keyOf("cpu", 0), keyOf("cpu", 80), keyOf("zzz", 0, "a", "b")) {
		for _, time := range []int{0, 79, 80, 105, impl.MaxTime, -1, impl.MaxTime + 1, math.MinInt, math.MaxInt} {
			if got, code := impl.AddEvent(b, k, time, 5); code != impl.WinBad || !sameBoard(got, impl.Board{}) {
				t.Errorf("%s: AddEvent = %v, %d, want zero and WinBad", what, got, code)
			}
		}
		if got, code := impl.AddEvent(b, k, 105, impl.MaxNumber+1); code != impl.WinBad || !sameBoard(got, impl.Board{}) {
			t.Errorf("%s: AddEvent of no value = %v, %d, want zero and WinBad", what, got, code)
		}
		if w, ok := impl.WinOf(b, k); ok || !sameWin(w, impl.Win{}) {
			t.Errorf("%s: WinOf = %v, %v, want zero and false", what, w, ok)
		}
	}
	for _, time := range append([]int{0, 99, 100, 101, impl.MaxTime, -1, impl.MaxTime + 1, b.Mark}, farInts()...) {
		if got, code := impl.RaiseMark(b, time); code != impl.WinBad || !sameBoard(got, impl.Board{}) {
			t.Errorf("%s: RaiseMark = %v, %d, want zero and WinBad", what, got, code)
		}
	}
	if got, told, code := impl.TellDirty(b); code != impl.WinBad || len(told) != 0 || !sameBoard(got, impl.Board{}) {
		t.Errorf("%s: TellDirty = %v, %v, %d, want zero and WinBad", what, got, told, code)
	}
	if got, gone, ok := impl.ExpireWins(b); ok || len(gone) != 0 || !sameBoard(got, impl.Board{}) {
		t.Errorf("%s: ExpireWins = %v, %v, %v, want zero and false", what, got, gone, ok)
	}
}

func TestPromise13BoardsThatAreNotGood(t *testing.T) {
	for _, c := range badBoards() {
		checkBadBoard(t, c.what, c.board)
	}
}

func TestPromise13EventsThatAreNone(t *testing.T) {
	for _, b := range []impl.Board{baseBoard(), boardOf(1, 0, 0), boardOf(10, 20, 500, winsFrom(impl.MaxWindows)...)} {
		for _, k := range badKeys() {
			checkNotAdded(t, "a key that is none", b, k, b.Mark, 5, impl.WinBad)
		}
		for _, start := range append([]int{1, 10, 80, -1, -10, impl.MaxStart, impl.MaxStart + 1}, farInts()...) {
			checkNotAdded(t, "a Start that is not 0", b, keyOf("cpu", start), b.Mark, 5, impl.WinBad)
			checkNotAdded(t, "a Start that is not 0", b, keyOf("zzz", start, "a", "b"), b.Mark, 5, impl.WinBad)
		}
		for _, time := range append([]int{-1, -2, -100, impl.MaxTime + 1, impl.MaxTime + 2, 2 * impl.MaxTime}, farInts()...) {
			checkNotAdded(t, "a time that is none", b, keyOf("cpu", 0), time, 5, impl.WinBad)
			checkNotAdded(t, "a time that is none", b, keyOf("zzz", 0), time, 5, impl.WinBad)
		}
		for _, value := range append([]int{-impl.MaxNumber - 1, impl.MaxNumber + 1, 2 * impl.MaxNumber}, farInts()...) {
			for _, time := range []int{0, b.Mark, impl.MaxTime} {
				checkNotAdded(t, "a value that is none", b, keyOf("cpu", 0), time, value, impl.WinBad)
				checkNotAdded(t, "a value that is none", b, keyOf("zzz", 0), time, value, impl.WinBad)
			}
		}
	}
}

func TestPromise13WindowsOfNoKey(t *testing.T) {
	for _, b := range []impl.Board{baseBoard(), boardOf(1, 0, 0), boardOf(1, 0, 0, winOf(keyOf("cpu", 0), 1, false, 1))} {
		for _, k := range badKeys() {
			if w, ok := impl.WinOf(b, k); ok || !sameWin(w, impl.Win{}) {
				t.Errorf("WinOf(%v) = %v, %v, want zero and false", k, w, ok)
			}
		}
		for _, start := range farInts() {
			if w, ok := impl.WinOf(b, keyOf("cpu", start)); ok || !sameWin(w, impl.Win{}) {
				t.Errorf("WinOf of Start %d = %v, %v, want zero and false", start, w, ok)
			}
		}
	}
}

func TestPromise13ToldsWithBadKeys(t *testing.T) {
	for _, k := range badKeys() {
		for _, many := range []int{1, 2, 3, 200} {
			for _, place := range []int{0, many / 2, many - 1} {
				var l []impl.Told
				for i := range many {
					l = append(l, toldOf(keyOf("cpu", i), 1, i))
				}
				l[place].Key = k
				if got, ok := impl.LastTold(l); ok || len(got) != 0 {
					t.Errorf("LastTold with %v at %d of %d = %v, %v", k, place, many, got, ok)
				}
			}
		}
	}
}

// Of a Told only the key must be good: its Version and Agg may be any.
func TestPromise13ToldsOfAnyAgg(t *testing.T) {
	var l []impl.Told
	for i, c := range badAggs() {
		if len(c.agg.Hist) < 20 && len(l) < 200 {
			l = append(l, impl.Told{Key: keyOf("cpu", i/2), Version: []int{0, -1, 1, math.MinInt, math.MaxInt, topWin + 1}[i%6], Agg: c.agg})
		}
	}
	checkLast(t, "any aggs", l, plainLast(l))
	checkLast(t, "a long Hist", []impl.Told{{Key: keyOf("cpu", 1), Agg: impl.Agg{Hist: make([]int, 999)}}}, []impl.Told{{Key: keyOf("cpu", 1), Agg: impl.Agg{Hist: make([]int, 999)}}})
}

// looseKey has memory behind its tags, and tells whether all of it stayed.
func looseKey(k impl.Key) (impl.Key, func() bool) {
	row := append(slices.Clone(k.Tags), tagsOf("behind", "it", "?", "?")...)
	kept := slices.Clone(row)
	k.Tags = row[:len(k.Tags)]
	return k, func() bool { return slices.Equal(row, kept) }
}

func looseAgg(a impl.Agg) (impl.Agg, func() bool) {
	row := append(slices.Clone(a.Hist), 7, 8, 9)
	kept := slices.Clone(row)
	a.Hist = row[:len(a.Hist)]
	return a, func() bool { return slices.Equal(row, kept) }
}

func looseBoard(b impl.Board) (impl.Board, func() bool) {
	row := append(slices.Clone(b.Wins), winOf(keyOf("zzz", 0, "a", "b"), 77, true, 7), impl.Win{Version: -5})
	var stayed []func() bool
	for i := range row {
		k, keyStays := looseKey(row[i].Key)
		a, aggStays := looseAgg(row[i].Agg)
		row[i].Key, row[i].Agg = k, a
		stayed = append(stayed, keyStays, aggStays)
	}
	kept := slices.Clone(row)
	b.Wins = row[:len(b.Wins)]
	return b, func() bool {
		return reflect.DeepEqual(row, kept) && allStay(stayed)
	}
}

func looseTolds(l []impl.Told) ([]impl.Told, func() bool) {
	row := append(slices.Clone(l), toldOf(keyOf("zzz", 0, "a", "b"), 77, 7), impl.Told{Version: -5})
	var stayed []func() bool
	for i := range row {
		k, keyStays := looseKey(row[i].Key)
		a, aggStays := looseAgg(row[i].Agg)
		row[i].Key, row[i].Agg = k, a
		stayed = append(stayed, keyStays, aggStays)
	}
	kept := slices.Clone(row)
	return row[:len(l)], func() bool {
		return reflect.DeepEqual(row, kept) && allStay(stayed)
	}
}

func allStay(stayed []func() bool) bool {
	for _, same := range stayed {
		if !same() {
			return false
		}
	}
	return true
}

// A boardAnswer holds what one call answered; what it has not is zero.
type boardAnswer struct {
	what  string
	board impl.Board
	told  []impl.Told
	gone  []impl.Key
	code  int
	ok    bool
}

// boardAnswers asks each function of a board; keys come with each event.
func boardAnswers(b impl.Board, keys []impl.Key) []boardAnswer {
	out := []boardAnswer{{what: "GoodBoard", ok: impl.GoodBoard(b)}}
	for _, k := range keys {
		for _, time := range []int{79, 80, 115, 95, -1, impl.MaxTime} {
			got, code := impl.AddEvent(b, k, time, 12)
			out = append(out, boardAnswer{what: "AddEvent", board: got, code: code})
		}
		got, code := impl.AddEvent(b, k, 95, impl.MaxNumber+1)
		out = append(out, boardAnswer{what: "AddEvent", board: got, code: code})
		w, ok := impl.WinOf(b, k)
		out = append(out, boardAnswer{what: "WinOf", board: impl.Board{Wins: []impl.Win{w}}, ok: ok})
	}
	for _, time := range []int{99, 100, 101, impl.MaxTime, -1} {
		got, code := impl.RaiseMark(b, time)
		out = append(out, boardAnswer{what: "RaiseMark", board: got, code: code})
	}
	got, told, code := impl.TellDirty(b)
	out = append(out, boardAnswer{what: "TellDirty", board: got, told: told, code: code})
	got, gone, ok := impl.ExpireWins(b)
	return append(out, boardAnswer{what: "ExpireWins", board: got, gone: gone, ok: ok})
}

func sameBoardAnswer(a boardAnswer, b boardAnswer) bool {
	return a.what == b.what && sameBoard(a.board, b.board) && sameTolds(a.told, b.told) &&
		slices.EqualFunc(a.gone, b.gone, sameKey) && a.code == b.code && a.ok == b.ok
}

func givenBoards() []impl.Board {
	r := rand.New(rand.NewSource(131))
	worn := baseBoard()
	worn.Wins[4].Dirty = true
	out := []impl.Board{
		baseBoard(), worn, boardOf(10, 20, 100), boardOf(1, 0, 0), boardOf(10, 20, 100, winsFrom(impl.MaxWindows)...),
		boardOf(10, 20, impl.MaxTime, baseBoard().Wins...), boardOf(10, 0, 0, winsFrom(impl.MaxWindows-1)...),
	}
	for range 30 {
		out = append(out, drawBoard(r))
	}
	for i, c := range badBoards() {
		if i%6 == 0 {
			out = append(out, c.board)
		}
	}
	return out
}

func givenWinKeys() []impl.Key {
	return []impl.Key{
		keyOf("cpu", 0), keyOf("cpu", 80), keyOf("cpu", 0, "host", "a"), keyOf("cpu", 80, "host", "a", "rack", "b"),
		keyOf("disk", 0), keyOf("aaa", 0, "a", "b", "c", "d"), keyOf("zzz", 0, "a", "b", "c", "d", "e", "f", "g", "h"),
		keyOf("cpu", 0, "b", "x", "a", "y"), keyOf("cpu", -1), {},
	}
}

func TestPromise13BoardsStay(t *testing.T) {
	for _, given := range givenBoards() {
		b, stayed := looseBoard(given)
		var keys []impl.Key
		var keysStay []func() bool
		for _, k := range givenWinKeys() {
			loose, same := looseKey(k)
			keys, keysStay = append(keys, loose), append(keysStay, same)
		}
		got, want := boardAnswers(b, keys), boardAnswers(given, givenWinKeys())
		if !stayed() || !allStay(keysStay) {
			t.Fatalf("written into %v", given)
		}
		for i := range want {
			if !sameBoardAnswer(got[i], want[i]) {
				t.Fatalf("%s of %v hangs on what lies behind: %v, want %v", want[i].what, given, got[i], want[i])
			}
			checkNothingBehindBoard(t, got[i].board)
			checkNothingBehindTolds(t, got[i].told)
			checkNothingBehindKeys(t, got[i].gone)
		}
	}
}

func checkNothingBehindBoard(t *testing.T, b impl.Board) {
	t.Helper()
	for _, w := range b.Wins {
		checkNoughtsBehind(t, "tags", w.Key.Tags)
		checkNothingBehindHist(t, w.Agg)
	}
	for _, w := range b.Wins[len(b.Wins):cap(b.Wins)] {
		if !sameWin(w, impl.Win{}) {
			t.Fatalf("behind the windows lies %v", w)
		}
	}
}

func checkNothingBehindTolds(t *testing.T, l []impl.Told) {
	t.Helper()
	for _, told := range l {
		checkNoughtsBehind(t, "tags", told.Key.Tags)
		checkNothingBehindHist(t, told.Agg)
	}
	for _, told := range l[len(l):cap(l)] {
		if !sameTold(told, impl.Told{}) {
			t.Fatalf("behind what is told lies %v", told)
		}
	}
}

func checkNothingBehindKeys(t *testing.T, l []impl.Key) {
	t.Helper()
	for _, k := range l {
		checkNoughtsBehind(t, "tags", k.Tags)
	}
	for _, k := range l[len(l):cap(l)] {
		if !sameKey(k, impl.Key{}) {
			t.Fatalf("behind the keys lies %v", k)
		}
	}
}

// fillLists writes into all the memory of each list, and tells whether one's writing
// was not seen in another.
func fillLists[T comparable](lists [][]T, nth func(int) T) bool {
	for i, l := range lists {
		whole := l[:cap(l)]
		for j := range whole {
			whole[j] = nth(i)
		}
	}
	for i, l := range lists {
		for _, x := range l[:cap(l)] {
			if x != nth(i) {
				return false
			}
		}
	}
	return true
}

// fillAnswer writes into all the memory of an answer, and tells whether its lists
// share none with each other.
func fillAnswer(a boardAnswer) bool {
	var tags [][]impl.Tag
	var hists [][]int
	for _, w := range a.board.Wins {
		tags, hists = append(tags, w.Key.Tags), append(hists, w.Agg.Hist)
	}
	for _, told := range a.told {
		tags, hists = append(tags, told.Key.Tags), append(hists, told.Agg.Hist)
	}
	for _, k := range a.gone {
		tags = append(tags, k.Tags)
	}
	apart := fillLists(tags, func(i int) impl.Tag { return impl.Tag{Name: "spoiled", Value: string(rune('a' + i))} })
	apart = fillLists(hists, func(i int) int { return -1 - i }) && apart
	for i, whole := 0, a.board.Wins[:cap(a.board.Wins)]; i < len(whole); i++ {
		whole[i] = winOf(keyOf("spoiled", -1), -1, true, 1)
	}
	for i, whole := 0, a.told[:cap(a.told)]; i < len(whole); i++ {
		whole[i] = toldOf(keyOf("spoiled", -1), -1, 1)
	}
	for i, whole := 0, a.gone[:cap(a.gone)]; i < len(whole); i++ {
		whole[i] = keyOf("spoiled", -1)
	}
	return apart
}

func copyAnswer(a boardAnswer) boardAnswer {
	a.board, a.told = copyBoard(a.board), copyTolds(a.told)
	var gone []impl.Key
	for _, k := range a.gone {
		gone = append(gone, copyKey(k))
	}
	a.gone = gone
	return a
}

func TestPromise13BoardAnswersAreNew(t *testing.T) {
	for _, given := range givenBoards() {
		b, keys := copyBoard(given), givenWinKeys()
		for _, a := range boardAnswers(b, keys) {
			if !fillAnswer(a) {
				t.Fatalf("%s of %v: two lists of one answer share memory", a.what, given)
			}
		}
		if !sameBoard(b, given) || !slices.EqualFunc(keys, givenWinKeys(), sameKey) {
			t.Fatalf("what is written into an answer is seen in %v", given)
		}
		got := boardAnswers(b, keys)
		var want []boardAnswer
		for _, a := range got {
			want = append(want, copyAnswer(a))
		}
		fillAnswer(boardAnswer{board: b})
		fillAnswer(boardAnswer{gone: keys})
		for i := range want {
			if !sameBoardAnswer(got[i], want[i]) {
				t.Fatalf("%s of %v changed with its arguments", want[i].what, given)
			}
		}
	}
}

func givenTolds() [][]impl.Told {
	r := rand.New(rand.NewSource(132))
	out := [][]impl.Told{nil, {toldOf(keyOf("cpu", 1, "a", "b"), 1, 2)}, {toldOf(keyOf("cpu", -1), 1, 2)}, {{}}}
	for _, many := range []int{2, 5, 12, 13, 60, 200, 201} {
		var l []impl.Told
		for i := range many {
			k := drawWinKey(r)
			k.Start = r.Intn(5)
			l = append(l, toldOf(k, r.Intn(3), i))
		}
		out = append(out, l)
	}
	return out
}

func TestPromise13ToldsStay(t *testing.T) {
	for _, given := range givenTolds() {
		l, stayed := looseTolds(given)
		got, ok := impl.LastTold(l)
		want, too := impl.LastTold(given)
		if !stayed() {
			t.Fatalf("LastTold wrote into %v", given)
		}
		if ok != too || !sameTolds(got, want) {
			t.Fatalf("LastTold(%v) hangs on what lies behind", given)
		}
		checkNothingBehindTolds(t, got)
	}
}

func TestPromise13ToldAnswersAreNew(t *testing.T) {
	for _, given := range givenTolds() {
		l := copyTolds(given)
		one, _ := impl.LastTold(l)
		other, _ := impl.LastTold(l)
		want := copyTolds(other)
		if !fillAnswer(boardAnswer{told: one}) || !sameTolds(l, given) || !sameTolds(other, want) {
			t.Fatalf("LastTold(%v) shares memory", given)
		}
		fillAnswer(boardAnswer{told: l})
		if !sameTolds(other, want) {
			t.Fatalf("LastTold(%v) changed with its argument", given)
		}
	}
}

// Windows whose lists are one memory must not run into each other.
func TestPromise13WindowsOfOneMemory(t *testing.T) {
	tags, hist := tagsOf("a", "b"), oneOf(5)
	var b impl.Board
	b.Size, b.Wins = 10, nil
	for i := range 5 {
		b.Wins = append(b.Wins, impl.Win{Key: impl.Key{Metric: "cpu", Tags: tags, Start: 10 * i}, Agg: hist, Version: 1})
	}
	kept := copyBoard(b)
	got := checkAdd(t, b, impl.Key{Metric: "cpu", Tags: tags}, 25, 7, withEvent(kept, keyOf("cpu", 0, "a", "b"), 25, 7))
	if !fillAnswer(boardAnswer{board: got}) || !sameBoard(b, kept) {
		t.Errorf("windows share memory: %v", got)
	}
	last, ok := impl.LastTold([]impl.Told{{Key: b.Wins[0].Key, Agg: hist}, {Key: b.Wins[1].Key, Agg: hist}})
	if !ok || len(last) != 2 || !fillAnswer(boardAnswer{told: last}) || !sameBoard(b, kept) {
		t.Errorf("what is told shares memory: %v, %v", last, ok)
	}
}
