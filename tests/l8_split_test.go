package tests

import (
	"math/rand"
	"slices"
	"strings"
	"testing"

	"loop.example/g00150/impl"
)

// runsOf are entries of keys a, b, c .., of each as many as is told.
func runsOf(many ...int) []impl.Entry {
	var keys []string
	for i, n := range many {
		keys = append(keys, manyTimes(string([]byte{byte('a' + i)}), n)...)
	}
	return kindsOf(keys...)
}

func lengthsOf(pieces [][]impl.Entry) []int {
	var out []int
	for _, piece := range pieces {
		out = append(out, len(piece))
	}
	return out
}

func frontRun(l []impl.Entry) int {
	return len(entriesWith(l, l[0].Key))
}

func checkSplit(t *testing.T, l []impl.Entry, most int) [][]impl.Entry {
	t.Helper()
	pieces, ok := impl.SplitRows(l, most)
	if !ok || !sameEntries(slices.Concat(pieces...), l) {
		t.Fatalf("SplitRows(%v, %d) = %v, %v", l, most, pieces, ok)
	}
	for i, piece := range pieces {
		if len(piece) == 0 || len(piece) > most && frontRun(piece) < len(piece) {
			t.Fatalf("SplitRows(%v, %d): piece %d is %v", l, most, i, piece)
		}
		if i == 0 {
			continue
		}
		ahead := pieces[i-1]
		if ahead[len(ahead)-1].Key == piece[0].Key {
			t.Fatalf("SplitRows(%v, %d): %q is parted", l, most, piece[0].Key)
		}
		if len(ahead)+frontRun(piece) <= most {
			t.Fatalf("SplitRows(%v, %d): piece %d would have fitted ahead", l, most, i)
		}
	}
	return pieces
}

func TestPromise8SplitOrdinary(t *testing.T) {
	for _, c := range []struct {
		what string
		l    []impl.Entry
		most int
		want []int
	}{
		{"none", nil, 5, nil},
		{"one", runsOf(1), 5, []int{1}},
		{"all in one", runsOf(1, 1, 1, 1, 1), 5, []int{5}},
		{"one more than most", runsOf(1, 1, 1, 1, 1, 1), 5, []int{5, 1}},
		{"twice most", runsOf(1, 1, 1, 1, 1, 1), 3, []int{3, 3}},
		{"one each", runsOf(1, 1, 1), 1, []int{1, 1, 1}},
		{"most 1 with longer keys", runsOf(1, 3, 1, 2), 1, []int{1, 3, 1, 2}},
		{"one that would not fit", runsOf(2, 2), 3, []int{2, 2}},
		{"one that just fits", runsOf(2, 2), 4, []int{4}},
		{"one that would not fit, and one that would have", runsOf(2, 2, 1), 3, []int{2, 3}},
		{"just most", runsOf(3), 3, []int{3}},
		{"just most between", runsOf(1, 3, 1), 3, []int{1, 3, 1}},
		{"more than most", runsOf(4), 3, []int{4}},
		{"more than most first", runsOf(4, 1, 1), 3, []int{4, 2}},
		{"more than most between", runsOf(1, 1, 4, 1), 3, []int{2, 4, 1}},
		{"more than most last", runsOf(1, 4), 3, []int{1, 4}},
		{"more than most, twice", runsOf(4, 5), 3, []int{4, 5}},
		{"far more than most", runsOf(1, 200, 1), 3, []int{1, 200, 1}},
		{"most 100", runsOf(99, 1, 1), 100, []int{100, 1}},
		{"most 100, just that many of a key", runsOf(1, 100, 1), 100, []int{1, 100, 1}},
		{"most 100, more of a key", runsOf(1, 101, 1), 100, []int{1, 101, 1}},
		{"most 100, few", runsOf(40, 50, 9), 100, []int{99}},
	} {
		if got := lengthsOf(checkSplit(t, c.l, c.most)); !slices.Equal(got, c.want) {
			t.Errorf("%s: the pieces have %v, want %v", c.what, got, c.want)
		}
	}
}

func TestPromise8SplitByEachMost(t *testing.T) {
	lists := [][]impl.Entry{dropsOf(apart(100)...), kindsOf(manyTimes("k", mostJoined)...), runsOf(slices.Repeat([]int{1, 2, 3, 5, 8}, 5)...)}
	r := rand.New(rand.NewSource(87))
	for _, many := range []int{1, 10, 50, 299, mostJoined} {
		lists = append(lists, inOrder(drawEntries(r, many, someKeys())), inOrder(drawEntries(r, many, namedKeys("key", 100))))
	}
	for _, l := range lists {
		for most := 1; most <= 100; most++ {
			checkSplit(t, l, most)
		}
	}
}

func TestPromise8SplitEveryFewRuns(t *testing.T) {
	for code := range 5 * 5 * 5 * 5 {
		l := runsOf(1+code%5, 1+code/5%5, 1+code/25%5, 1+code/125)
		for most := 1; most <= 8; most++ {
			checkSplit(t, l, most)
		}
	}
}

func checkOverlap(t *testing.T, a []impl.Entry, b []impl.Entry, want bool) {
	t.Helper()
	if over, ok := impl.Overlap(a, b); over != want || !ok {
		t.Errorf("Overlap(%v, %v) = %v, %v, want %v", a, b, over, ok, want)
	}
	if over, ok := impl.Overlap(b, a); over != want || !ok {
		t.Errorf("Overlap(%v, %v) = %v, %v, want %v", b, a, over, ok, want)
	}
}

func TestPromise8OverlapOrdinary(t *testing.T) {
	long := strings.Repeat("k", impl.MaxKeyBytes)
	for _, c := range []struct {
		what string
		a    []impl.Entry
		b    []impl.Entry
		want bool
	}{
		{"apart", dropsOf("a", "b"), dropsOf("c", "d"), false},
		{"far apart", dropsOf("a"), dropsOf("z"), false},
		{"one key that both have", dropsOf("a", "c"), dropsOf("c", "d"), true},
		{"one key alone", dropsOf("c"), dropsOf("c"), true},
		{"one key alone at an end", dropsOf("c"), dropsOf("a", "b", "c"), true},
		{"one behind the other's end", dropsOf("c\x00"), dropsOf("a", "b", "c"), false},
		{"one ahead of the other's least", dropsOf("a"), dropsOf("a\x00", "b"), false},
		{"one in the other", dropsOf("a", "z"), dropsOf("c", "d"), true},
		{"one in a gap of the other", dropsOf("a", "z"), dropsOf("c"), true},
		{"partly", dropsOf("a", "c"), dropsOf("b", "d"), true},
		{"the same", dropsOf("a", "b"), dropsOf("a", "b"), true},
		{"the same least", dropsOf("a"), dropsOf("a", "b"), true},
		{"of one key many", kindsOf("k", "k", "k"), kindsOf("k", "k"), true},
		{"great letters ahead of small ones", dropsOf("A", "Z"), dropsOf("a", "z"), false},
		{"bytes above 127 behind", dropsOf("a", "z"), dropsOf("\x80", "\xff"), false},
		{"long keys", dropsOf(long), dropsOf(long[1:]), false},
		{"long keys between", dropsOf(long), dropsOf(long[1:], "l"), true},
		{"one empty", nil, dropsOf("a"), false},
		{"both empty", nil, []impl.Entry{}, false},
	} {
		t.Run(c.what, func(t *testing.T) { checkOverlap(t, c.a, c.b, c.want) })
	}
}

func TestPromise8OverlapOfEverySpan(t *testing.T) {
	keys := []string{"a", "b", "c", "d", "e"}
	for from := range keys {
		for to := from; to < len(keys); to++ {
			for low := range keys {
				for high := low; high < len(keys); high++ {
					common := false
					for i := range keys {
						common = common || from <= i && i <= to && low <= i && i <= high
					}
					checkOverlap(t, dropsOf(keys[from:to+1]...), dropsOf(keys[low:high+1]...), common)
				}
			}
		}
		checkOverlap(t, dropsOf(keys[from:]...), nil, false)
		checkOverlap(t, dropsOf(keys[from:]...), []impl.Entry{}, false)
	}
}

// The chapter sets no number for Overlap, and each list has Seqs of its own.
func TestPromise8OverlapOfLongLists(t *testing.T) {
	r := rand.New(rand.NewSource(88))
	for _, many := range []int{mostJoined, mostJoined + 1, 2000} {
		l := inOrder(drawEntries(r, many, someKeys()))
		checkOverlap(t, l, l, true)
		checkOverlap(t, l, dropsOf("k"), true)
		checkOverlap(t, l, dropsOf("\xff\xff\xff"), false)
		checkOverlap(t, l, nil, false)
	}
}
