package tests

import (
	"bytes"
	"encoding/binary"
	"math"
	"math/big"
	"math/rand"
	"slices"
	"testing"

	"loop.example/g00150/impl"
)

func sameAgg(a impl.Agg, b impl.Agg) bool {
	return a.Count == b.Count && a.Sum == b.Sum && a.Min == b.Min && a.Max == b.Max && a.Full == b.Full && slices.Equal(a.Hist, b.Hist)
}

func copyAgg(a impl.Agg) impl.Agg {
	a.Hist = append([]int(nil), a.Hist...)
	return a
}

func noAgg() impl.Agg {
	return impl.Agg{Hist: make([]int, impl.Buckets)}
}

// manyOf is what so many events of one value in one bucket add up to.
func manyOf(many int, value int, bucket int) impl.Agg {
	a := impl.Agg{Count: many, Sum: many * value, Min: value, Max: value, Hist: make([]int, impl.Buckets)}
	a.Hist[bucket] = many
	return a
}

func fullOf(many int, low int, high int, hist ...int) impl.Agg {
	a := impl.Agg{Count: many, Min: low, Max: high, Hist: make([]int, impl.Buckets), Full: true}
	copy(a.Hist, hist)
	return a
}

// goodAggs are at the edges of what is good, ordinary ones among them.
func goodAggs() []impl.Agg {
	most := slices.Repeat([]int{impl.MaxCount}, impl.Buckets)
	return []impl.Agg{
		noAgg(),
		manyOf(1, 0, 1),
		manyOf(1, -1, 0),
		manyOf(3, 12, 3),
		manyOf(1, impl.MaxNumber, 7),
		manyOf(1, -impl.MaxNumber, 0),
		{Count: 5, Sum: -7, Min: -20, Max: 9, Hist: []int{2, 1, 2, 0, 0, 0, 0, 0}},
		{Count: 8, Sum: 123456, Min: -3, Max: 100000, Hist: []int{1, 1, 1, 1, 1, 1, 1, 1}},
		{Count: 2, Sum: 2 * impl.MaxNumber, Min: 5, Max: 5, Hist: []int{2, 0, 0, 0, 0, 0, 0, 0}},
		{Count: 2, Sum: -2 * impl.MaxNumber, Min: -5, Max: 5, Hist: []int{0, 0, 0, 0, 0, 0, 0, 2}},
		manyOf(impl.MaxCount, impl.MaxNumber, 7),
		manyOf(impl.MaxCount, -impl.MaxNumber, 0),
		manyOf(impl.MaxCount-1, 1, 2),
		{Count: impl.MaxCount, Sum: 77, Min: 0, Max: 9, Hist: []int{0, impl.MaxCount - 5, 5, 0, 0, 0, 0, 0}},
		fullOf(1, 0, 0),
		fullOf(1, -5, 3, 1),
		fullOf(impl.MaxCount, -impl.MaxNumber, impl.MaxNumber, most...),
		fullOf(1, -impl.MaxNumber, -impl.MaxNumber, most...),
		fullOf(impl.MaxCount, impl.MaxNumber, impl.MaxNumber),
		fullOf(12, 1, 2, 0, 0, 12, 9, impl.MaxCount, 0, 0, 3),
	}
}

// plainJoin adds all of them up at once, and cuts in the end alone.
func plainJoin(list ...impl.Agg) impl.Agg {
	out := noAgg()
	low, high := math.MaxInt, math.MinInt
	for _, a := range list {
		out.Count += a.Count
		out.Full = out.Full || a.Full
		for i := range out.Hist {
			out.Hist[i] += a.Hist[i]
		}
		if a.Count > 0 {
			low, high = min(low, a.Min), max(high, a.Max)
		}
	}
	if out.Count > 0 {
		out.Min, out.Max = low, high
	}
	for _, n := range append([]int{out.Count}, out.Hist...) {
		out.Full = out.Full || n > impl.MaxCount
	}
	out.Count = min(out.Count, impl.MaxCount)
	for i := range out.Hist {
		out.Hist[i] = min(out.Hist[i], impl.MaxCount)
	}
	if !out.Full {
		for _, a := range list {
			out.Sum += a.Sum
		}
	}
	return out
}

func mustJoin(t *testing.T, a impl.Agg, b impl.Agg) impl.Agg {
	t.Helper()
	x, ok := impl.JoinAggs(a, b)
	if !ok {
		t.Fatalf("JoinAggs(%v, %v) is refused", a, b)
	}
	if !impl.GoodAgg(x) {
		t.Fatalf("JoinAggs(%v, %v) = %v, which is not good", a, b, x)
	}
	return x
}

func TestPromise4BucketEdges(t *testing.T) {
	for _, c := range []struct{ v, want int }{
		{-impl.MaxNumber, 0}, {-impl.MaxNumber + 1, 0}, {-100000, 0}, {-10, 0}, {-9, 0}, {-2, 0}, {-1, 0},
		{0, 1},
		{1, 2}, {2, 2}, {5, 2}, {8, 2}, {9, 2},
		{10, 3}, {11, 3}, {50, 3}, {98, 3}, {99, 3},
		{100, 4}, {101, 4}, {998, 4}, {999, 4},
		{1000, 5}, {1001, 5}, {9998, 5}, {9999, 5},
		{10000, 6}, {10001, 6}, {99998, 6}, {99999, 6},
		{100000, 7}, {100001, 7}, {999999, 7}, {1000000, 7}, {impl.MaxNumber - 1, 7}, {impl.MaxNumber, 7},
	} {
		if n := impl.BucketOf(c.v); n != c.want {
			t.Errorf("BucketOf(%d) = %d, want %d", c.v, n, c.want)
		}
	}
}

// plainBucket is told by how many digits the number has.
func plainBucket(v int) int {
	if v < 0 {
		return 0
	}
	digits := 0
	for ; v > 0; v /= 10 {
		digits++
	}
	return min(digits, 6) + 1
}

func TestPromise4AggOfAValue(t *testing.T) {
	values := []int{0, 1, -1, 9, 10, 99, 100, 999, 1000, 9999, 10000, 99999, 100000, impl.MaxNumber, -impl.MaxNumber}
	for v := -300; v < 12000; v++ {
		values = append(values, v, v*83, -v*83333)
	}
	for _, v := range values {
		if n := impl.BucketOf(v); n != plainBucket(v) {
			t.Fatalf("BucketOf(%d) = %d, want %d", v, n, plainBucket(v))
		}
		a, ok := impl.AggOf(v)
		if !ok || !sameAgg(a, manyOf(1, v, plainBucket(v))) || !impl.GoodAgg(a) {
			t.Fatalf("AggOf(%d) = %v, %v", v, a, ok)
		}
	}
}

func TestPromise4GoodAggs(t *testing.T) {
	for _, a := range goodAggs() {
		if !impl.GoodAgg(a) {
			t.Errorf("GoodAgg(%v) is false", a)
		}
	}
}

func TestPromise4Joins(t *testing.T) {
	half := impl.MaxCount / 2
	mixed := manyOf(half, 1, 2)
	for _, c := range []struct{ a, b, want impl.Agg }{
		{noAgg(), noAgg(), noAgg()},
		{manyOf(1, 12, 3), noAgg(), manyOf(1, 12, 3)},
		{manyOf(1, -12, 0), noAgg(), manyOf(1, -12, 0)},
		{manyOf(1, 12, 3), manyOf(1, 12, 3), manyOf(2, 12, 3)},
		{manyOf(1, 12, 3), manyOf(1, -5, 0), impl.Agg{Count: 2, Sum: 7, Min: -5, Max: 12, Hist: []int{1, 0, 0, 1, 0, 0, 0, 0}}},
		{manyOf(2, -3, 0), manyOf(1, -9, 0), impl.Agg{Count: 3, Sum: -15, Min: -9, Max: -3, Hist: []int{3, 0, 0, 0, 0, 0, 0, 0}}},
		{mixed, mixed, manyOf(impl.MaxCount, 1, 2)},
		{manyOf(impl.MaxCount-1, 4, 2), manyOf(1, 4, 2), manyOf(impl.MaxCount, 4, 2)},
		{manyOf(impl.MaxCount, 4, 2), manyOf(1, 4, 2), fullOf(impl.MaxCount, 4, 4, 0, 0, impl.MaxCount)},
		{manyOf(impl.MaxCount, 4, 2), manyOf(1, 10, 3), fullOf(impl.MaxCount, 4, 10, 0, 0, impl.MaxCount, 1)},
		{manyOf(half+1, 4, 2), manyOf(half, -7, 0), fullOf(impl.MaxCount, -7, 4, half, 0, half+1)},
		{manyOf(impl.MaxCount, 4, 2), noAgg(), manyOf(impl.MaxCount, 4, 2)},
		{manyOf(impl.MaxCount, impl.MaxNumber, 7), manyOf(impl.MaxCount, impl.MaxNumber, 7), fullOf(impl.MaxCount, impl.MaxNumber, impl.MaxNumber, 0, 0, 0, 0, 0, 0, 0, impl.MaxCount)},
		{manyOf(half, impl.MaxNumber, 7), manyOf(half, impl.MaxNumber, 7), manyOf(impl.MaxCount, impl.MaxNumber, 7)},
		{manyOf(half, -impl.MaxNumber, 0), manyOf(half, -impl.MaxNumber, 0), manyOf(impl.MaxCount, -impl.MaxNumber, 0)},
		{fullOf(1, 3, 4), noAgg(), fullOf(1, 3, 4)},
		{fullOf(1, -4, -3), noAgg(), fullOf(1, -4, -3)},
		{fullOf(1, 3, 4), manyOf(1, 50, 3), fullOf(2, 3, 50, 0, 0, 0, 1)},
		{fullOf(1, 3, 4, impl.MaxCount), manyOf(1, -1, 0), fullOf(2, -1, 4, impl.MaxCount)},
		{fullOf(1, 3, 4, impl.MaxCount-1), manyOf(1, -1, 0), fullOf(2, -1, 4, impl.MaxCount)},
		{fullOf(1, 3, 4, 9, 9), fullOf(5, 3, 4, 1, 2, 3), fullOf(6, 3, 4, 10, 11, 3)},
		{fullOf(impl.MaxCount, 0, 0), fullOf(impl.MaxCount, 0, 0, 1), fullOf(impl.MaxCount, 0, 0, 1)},
	} {
		for _, x := range []impl.Agg{mustJoin(t, c.a, c.b), mustJoin(t, c.b, c.a)} {
			if !sameAgg(x, c.want) {
				t.Errorf("JoinAggs(%v, %v) = %v, want %v", c.a, c.b, x, c.want)
			}
		}
	}
}

func TestPromise4JoinedWithNone(t *testing.T) {
	for _, a := range goodAggs() {
		for _, x := range []impl.Agg{mustJoin(t, a, noAgg()), mustJoin(t, noAgg(), a)} {
			if !sameAgg(x, a) {
				t.Errorf("%v joined with none is %v", a, x)
			}
		}
	}
}

func TestPromise4EachTwoInBothOrders(t *testing.T) {
	for _, a := range goodAggs() {
		for _, b := range goodAggs() {
			want := plainJoin(a, b)
			if x, y := mustJoin(t, a, b), mustJoin(t, b, a); !sameAgg(x, want) || !sameAgg(y, want) {
				t.Fatalf("%v and %v are %v and the other way %v, want %v", a, b, x, y, want)
			}
		}
	}
}

func TestPromise4EachThreeInBothBrackets(t *testing.T) {
	aggs := goodAggs()
	for _, a := range aggs {
		for _, b := range aggs {
			for _, c := range aggs {
				want := plainJoin(a, b, c)
				left := mustJoin(t, mustJoin(t, a, b), c)
				right := mustJoin(t, a, mustJoin(t, b, c))
				if !sameAgg(left, want) || !sameAgg(right, want) {
					t.Fatalf("%v, %v, %v: from the left %v, from the right %v, want %v", a, b, c, left, right, want)
				}
			}
		}
	}
}

// eachBracket joins a row in each way in which brackets can be set.
func eachBracket(t *testing.T, row []impl.Agg, tell func(impl.Agg)) {
	if len(row) == 1 {
		tell(row[0])
		return
	}
	for cut := 1; cut < len(row); cut++ {
		eachBracket(t, row[:cut], func(a impl.Agg) {
			eachBracket(t, row[cut:], func(b impl.Agg) { tell(mustJoin(t, a, b)) })
		})
	}
}

func eachOrder[T any](row []T, from int, tell func([]T)) {
	if from == len(row) {
		tell(slices.Clone(row))
		return
	}
	for i := from; i < len(row); i++ {
		row[from], row[i] = row[i], row[from]
		eachOrder(row, from+1, tell)
		row[from], row[i] = row[i], row[from]
	}
}

func TestPromise4AnyOrderAndAnyBrackets(t *testing.T) {
	third := impl.MaxCount / 3
	for _, row := range [][]impl.Agg{
		{manyOf(1, 7, 2), manyOf(2, -7, 0), noAgg(), manyOf(1, 1000, 5)},
		{manyOf(third, 7, 2), manyOf(third, -7, 0), manyOf(third, 9, 2), manyOf(1, 1, 2)},
		{manyOf(third, 7, 2), manyOf(third, -7, 0), manyOf(third, 9, 2), manyOf(2, 1, 2)},
		{manyOf(impl.MaxCount, 7, 2), manyOf(impl.MaxCount, -7, 0), noAgg(), manyOf(1, 0, 1)},
		{fullOf(1, 2, 3, 4), manyOf(impl.MaxCount, 5, 2), noAgg(), manyOf(impl.MaxCount, -5, 0)},
		{fullOf(1, 2, 3, impl.MaxCount-2), fullOf(1, -2, 3, 1, 1), manyOf(1, -1, 0), manyOf(1, -1, 0), noAgg()},
		{manyOf(impl.MaxCount-3, impl.MaxNumber, 7), manyOf(1, impl.MaxNumber, 7), manyOf(1, -impl.MaxNumber, 0), manyOf(1, 0, 1), noAgg()},
		{manyOf(impl.MaxCount-3, impl.MaxNumber, 7), manyOf(1, impl.MaxNumber, 7), manyOf(1, -impl.MaxNumber, 0), manyOf(1, 0, 1), manyOf(1, 5, 2)},
	} {
		want := plainJoin(row...)
		eachOrder(row, 0, func(list []impl.Agg) {
			eachBracket(t, list, func(x impl.Agg) {
				if !sameAgg(x, want) {
					t.Fatalf("%v joined is %v, want %v", list, x, want)
				}
			})
		})
	}
}

func drawValue(draw *rand.Rand) int {
	switch draw.Intn(5) {
	case 0:
		return draw.Intn(25) - 12
	case 1:
		return draw.Intn(2*impl.MaxNumber+1) - impl.MaxNumber
	case 2:
		edge := []int{1, 10, 100, 1000, 10000, 100000, impl.MaxNumber, -impl.MaxNumber + 1}
		return edge[draw.Intn(len(edge))] - draw.Intn(2)
	}
	return draw.Intn(2001) - 1000
}

// drawAgg draws a good one; many of them are near or above what can be counted.
func drawAgg(draw *rand.Rand) impl.Agg {
	a := noAgg()
	if draw.Intn(6) == 0 {
		return a
	}
	for i := range a.Hist {
		if draw.Intn(3) == 0 {
			a.Hist[i] = draw.Intn([]int{2, 40, impl.MaxCount / 16, impl.MaxCount/8 + 1}[draw.Intn(4)])
		}
		a.Count += a.Hist[i]
	}
	if a.Count == 0 {
		a.Count, a.Hist[3] = 1, 1
	}
	x, y := drawValue(draw), drawValue(draw)
	a.Min, a.Max = min(x, y), max(x, y)
	a.Sum = draw.Intn(2*impl.MaxNumber*a.Count+1) - impl.MaxNumber*a.Count
	if draw.Intn(8) == 0 {
		a.Full, a.Sum = true, 0
		a.Count = 1 + draw.Intn(impl.MaxCount)
		a.Hist[draw.Intn(impl.Buckets)] = impl.MaxCount - draw.Intn(3)
	}
	return a
}

func TestPromise4DrawnAggsInDrawnTrees(t *testing.T) {
	draw := rand.New(rand.NewSource(4))
	full := 0
	for range 4000 {
		row := make([]impl.Agg, 1+draw.Intn(12))
		for i := range row {
			row[i] = drawAgg(draw)
			if !impl.GoodAgg(row[i]) {
				t.Fatalf("GoodAgg(%v) is false", row[i])
			}
		}
		want := plainJoin(row...)
		if want.Full {
			full++
		}
		for len(row) > 1 {
			draw.Shuffle(len(row), func(i int, j int) { row[i], row[j] = row[j], row[i] })
			row = append(row[2:], mustJoin(t, row[0], row[1]))
		}
		if !sameAgg(row[0], want) {
			t.Fatalf("joined %v, want %v", row[0], want)
		}
	}
	if full < 500 || full > 3500 {
		t.Errorf("%d of 4000 were full: the draws tell little", full)
	}
}

func TestPromise4ValuesAddUp(t *testing.T) {
	draw := rand.New(rand.NewSource(44))
	for range 300 {
		values := make([]int, 1+draw.Intn(40))
		all, want := noAgg(), noAgg()
		for i := range values {
			values[i] = drawValue(draw)
			one, _ := impl.AggOf(values[i])
			all = mustJoin(t, all, one)
			want.Count++
			want.Sum += values[i]
			want.Hist[plainBucket(values[i])]++
		}
		want.Min, want.Max = slices.Min(values), slices.Max(values)
		if !sameAgg(all, want) {
			t.Fatalf("%v make %v, want %v", values, all, want)
		}
	}
}

// plainAggBytes writes any agg down, without asking whether it is good.
func plainAggBytes(a impl.Agg) []byte {
	b := []byte{0}
	if a.Full {
		b[0] = 1
	}
	for _, n := range append([]int{a.Count, a.Sum, a.Min, a.Max}, a.Hist...) {
		// The library's signed form is the one that the document tells.
		b = binary.AppendVarint(b, int64(n))
	}
	return b
}

func TestPromise4AggsByBytes(t *testing.T) {
	for _, c := range []struct {
		agg  impl.Agg
		want string
	}{
		{noAgg(), "\x00\x00\x00\x00\x00\x00\x00\x00\x00\x00\x00\x00\x00"},
		{manyOf(1, 0, 1), "\x00\x02\x00\x00\x00\x00\x02\x00\x00\x00\x00\x00\x00"},
		{manyOf(1, 12, 3), "\x00\x02\x18\x18\x18\x00\x00\x00\x02\x00\x00\x00\x00"},
		{manyOf(1, -5, 0), "\x00\x02\x09\x09\x09\x02\x00\x00\x00\x00\x00\x00\x00"},
		{manyOf(2, -64, 0), "\x00\x04\xff\x01\x7f\x7f\x04\x00\x00\x00\x00\x00\x00\x00"},
		{manyOf(1, 64, 3), "\x00\x02\x80\x01\x80\x01\x80\x01\x00\x00\x00\x02\x00\x00\x00\x00"},
		{fullOf(3, -1, 1, 1, 2, 3, 4, 5, 6, 7, 63), "\x01\x06\x00\x01\x02\x02\x04\x06\x08\x0a\x0c\x0e\x7e"},
		{fullOf(1, -impl.MaxNumber, impl.MaxNumber), "\x01\x02\x00\xff\xa7\xd6\xb9\x07\x80\xa8\xd6\xb9\x07\x00\x00\x00\x00\x00\x00\x00\x00"},
	} {
		b, ok := impl.AggBytes(c.agg)
		if !ok || string(b) != c.want {
			t.Errorf("AggBytes(%v) = %q, %v, want %q", c.agg, b, ok, c.want)
		}
		if a, ok := impl.ReadAgg([]byte(c.want)); !ok || !sameAgg(a, c.agg) {
			t.Errorf("ReadAgg(%q) = %v, %v, want %v", c.want, a, ok, c.agg)
		}
	}
}

func checkComesBack(t *testing.T, a impl.Agg) {
	t.Helper()
	b, ok := impl.AggBytes(a)
	if !ok || !bytes.Equal(b, plainAggBytes(a)) {
		t.Fatalf("AggBytes(%v) = %q, %v, want %q", a, b, ok, plainAggBytes(a))
	}
	if back, ok := impl.ReadAgg(b); !ok || !sameAgg(back, a) {
		t.Fatalf("%v comes back as %v, %v", a, back, ok)
	}
}

func TestPromise4AggsComeBack(t *testing.T) {
	for _, a := range goodAggs() {
		checkComesBack(t, a)
		for _, b := range goodAggs() {
			checkComesBack(t, plainJoin(a, b))
		}
	}
	draw := rand.New(rand.NewSource(40))
	for range 3000 {
		checkComesBack(t, drawAgg(draw))
	}
}

func checkNoAgg(t *testing.T, what string, b []byte) {
	t.Helper()
	if a, ok := impl.ReadAgg(b); ok || !sameAgg(a, noAgg()) {
		t.Errorf("%s: ReadAgg(%.60q) = %v, %v, want the zero agg and false", what, b, a, ok)
	}
}

func TestPromise4FirstByte(t *testing.T) {
	for _, a := range goodAggs() {
		b := plainAggBytes(a)
		for c := 2; c < 256; c++ {
			b[0] = byte(c)
			checkNoAgg(t, "a first byte that is neither 0 nor 1", b)
		}
	}
}

func TestPromise4BytesLeftOverOrMissing(t *testing.T) {
	for _, a := range goodAggs() {
		b := plainAggBytes(a)
		for c := range 256 {
			checkNoAgg(t, "a byte left over", append(slices.Clone(b), byte(c)))
		}
		checkNoAgg(t, "twice", slices.Concat(b, b))
		checkNoAgg(t, "a further number", append(slices.Clone(b), make([]byte, 1000)...))
		checkNoAgg(t, "a byte ahead", append([]byte{0}, b...))
		for cut := range b {
			checkNoAgg(t, "cut", b[:cut])
			checkNoAgg(t, "without its front", b[cut+1:])
		}
	}
}

// longerForms has the numbers' bytes with noughts as groups behind one of them.
func longerForms(a impl.Agg) [][]byte {
	var out [][]byte
	for long := range 12 {
		for _, more := range []string{"\x00", "\x80\x00", "\x80\x80\x80\x80\x00"} {
			b := plainAggBytes(impl.Agg{Full: a.Full})[:1]
			for i, n := range append([]int{a.Count, a.Sum, a.Min, a.Max}, a.Hist...) {
				form := binary.AppendVarint(nil, int64(n))
				if i == long {
					form[len(form)-1] |= 128
					form = append(form, more...)
				}
				b = append(b, form...)
			}
			out = append(out, b)
		}
	}
	return out
}

func TestPromise4LongerFormsOfNumbers(t *testing.T) {
	for _, a := range goodAggs() {
		for _, b := range longerForms(a) {
			checkNoAgg(t, "a longer form of a number", b)
		}
	}
}

func TestPromise4BytesOfAggsThatAreNotGood(t *testing.T) {
	for _, c := range badAggs() {
		checkNoAgg(t, c.what, plainAggBytes(c.agg))
	}
}

// Whatever bytes are read, they are those of a good agg and come back.
func TestPromise4NoOtherBytesAreRead(t *testing.T) {
	read := 0
	check := func(b []byte) {
		t.Helper()
		a, ok := impl.ReadAgg(b)
		if !ok {
			if !sameAgg(a, noAgg()) {
				t.Fatalf("ReadAgg(%q) = %v beside a false", b, a)
			}
			return
		}
		read++
		if !impl.GoodAgg(a) || !bytes.Equal(plainAggBytes(a), b) {
			t.Fatalf("ReadAgg(%q) = %v, which has other bytes: %q", b, a, plainAggBytes(a))
		}
	}
	for _, a := range goodAggs() {
		b := plainAggBytes(a)
		for at := range b {
			kept := b[at]
			for c := range 256 {
				b[at] = byte(c)
				check(b)
			}
			b[at] = kept
		}
	}
	if read < 1000 {
		t.Errorf("%d were read: the changes tell little", read)
	}
	draw := rand.New(rand.NewSource(41))
	for range 20000 {
		b := make([]byte, draw.Intn(20))
		for i := range b {
			b[i] = byte(draw.Intn([]int{2, 3, 256}[draw.Intn(3)]))
		}
		check(b)
	}
}

// plainMean is what floor division of big numbers by one above 0 tells.
func plainMean(sum int, count int) int {
	n := new(big.Int).Div(big.NewInt(int64(sum)), big.NewInt(int64(count)))
	return int(n.Int64())
}

func TestPromise4MeansAreRoundedDown(t *testing.T) {
	for _, c := range []struct{ sum, count, want int }{
		{0, 1, 0}, {0, 5, 0}, {7, 1, 7}, {-7, 1, -7},
		{7, 2, 3}, {-7, 2, -4}, {6, 2, 3}, {-6, 2, -3}, {1, 2, 0}, {-1, 2, -1},
		{1, 3, 0}, {2, 3, 0}, {3, 3, 1}, {-1, 3, -1}, {-2, 3, -1}, {-3, 3, -1}, {-4, 3, -2},
		{1, impl.MaxCount, 0}, {-1, impl.MaxCount, -1},
		{impl.MaxNumber * impl.MaxCount, impl.MaxCount, impl.MaxNumber},
		{impl.MaxNumber*impl.MaxCount - 1, impl.MaxCount, impl.MaxNumber - 1},
		{-impl.MaxNumber * impl.MaxCount, impl.MaxCount, -impl.MaxNumber},
		{-impl.MaxNumber*impl.MaxCount + 1, impl.MaxCount, -impl.MaxNumber},
	} {
		a := manyOf(c.count, 0, 1)
		a.Sum = c.sum
		if n, ok := impl.MeanOf(a); n != c.want || !ok {
			t.Errorf("MeanOf a sum of %d and a count of %d = %d, %v, want %d", c.sum, c.count, n, ok, c.want)
		}
	}
	for count := 1; count < 12; count++ {
		for sum := -50; sum <= 50; sum++ {
			a := manyOf(count, 0, 1)
			a.Sum = sum
			if n, ok := impl.MeanOf(a); n != plainMean(sum, count) || !ok {
				t.Errorf("MeanOf a sum of %d and a count of %d = %d, %v, want %d", sum, count, n, ok, plainMean(sum, count))
			}
		}
	}
}

func TestPromise4MeansOfAny(t *testing.T) {
	draw := rand.New(rand.NewSource(42))
	list := goodAggs()
	for range 2000 {
		list = append(list, drawAgg(draw))
	}
	for _, a := range list {
		want, wantOk := 0, a.Count > 0 && !a.Full
		if wantOk {
			want = plainMean(a.Sum, a.Count)
		}
		if n, ok := impl.MeanOf(a); n != want || ok != wantOk {
			t.Fatalf("MeanOf(%v) = %d, %v, want %d, %v", a, n, ok, want, wantOk)
		}
	}
}
