package tests

import (
	"bytes"
	"math"
	"slices"
	"testing"

	"loop.example/g00150/impl"
)

type badAgg struct {
	what string
	agg  impl.Agg
}

// badAggs break one of the chapter's words each, by one where that is told.
func badAggs() []badAgg {
	var out []badAgg
	add := func(what string, from impl.Agg, change func(*impl.Agg)) {
		a := copyAgg(from)
		change(&a)
		out = append(out, badAgg{what, a})
	}
	plain := impl.Agg{Count: 5, Sum: -7, Min: -20, Max: 9, Hist: []int{2, 1, 2, 0, 0, 0, 0, 0}}
	full := fullOf(12, 1, 2, 0, 0, 12, 9, impl.MaxCount, 0, 0, 3)
	most := manyOf(impl.MaxCount, 1, 2)
	edges := []int{math.MinInt, math.MinInt + 1, math.MaxInt - 1, math.MaxInt, 1 << 32, -1 << 32, 1 << 62, -1 << 62}
	for _, from := range []impl.Agg{plain, full, most} {
		for _, n := range append([]int{-1, -5, impl.MaxCount + 1}, edges...) {
			add("a count that is none", from, func(a *impl.Agg) { a.Count = n })
			for i := range impl.Buckets {
				add("a number of Hist that is none", from, func(a *impl.Agg) { a.Hist[i] = n })
			}
		}
		for _, n := range append([]int{-impl.MaxNumber - 1, impl.MaxNumber + 1}, edges...) {
			add("a Min that is no value", from, func(a *impl.Agg) { a.Min = n })
			add("a Max that is no value", from, func(a *impl.Agg) { a.Max = n })
			add("a Min and Max that are no values", from, func(a *impl.Agg) { a.Min, a.Max = n, n })
		}
		for _, many := range []int{0, 1, 4, 7, 9, 16, 1000} {
			add("a Hist of another length", from, func(a *impl.Agg) {
				a.Hist = append(a.Hist, make([]int, 1000)...)[:many]
			})
			add("a Hist of another length with the same total", from, func(a *impl.Agg) {
				a.Hist = make([]int, many)
				if many > 0 {
					a.Hist[0] = a.Count
				}
			})
		}
		add("a Hist without its front", from, func(a *impl.Agg) { a.Hist = a.Hist[1:] })
		add("a Hist that is not there", from, func(a *impl.Agg) { a.Hist = nil })
		add("a Min above Max", from, func(a *impl.Agg) { a.Min = a.Max + 1 })
		add("Min and Max changed about", from, func(a *impl.Agg) { a.Min, a.Max = a.Max+1, a.Min })
		add("a count of 0 where there is more", from, func(a *impl.Agg) { a.Count = 0 })
	}
	for _, from := range []impl.Agg{plain, most} {
		add("a count below its Hist", from, func(a *impl.Agg) { a.Count-- })
		for i := range impl.Buckets {
			add("a Hist above its count", from, func(a *impl.Agg) { a.Hist[i]++ })
		}
		add("a Hist below its count", from, func(a *impl.Agg) { a.Hist[2]-- })
		add("a Hist of noughts", from, func(a *impl.Agg) { a.Hist = make([]int, impl.Buckets) })
		add("a Sum that is too great", from, func(a *impl.Agg) { a.Sum = impl.MaxNumber*a.Count + 1 })
		add("a Sum that is too low", from, func(a *impl.Agg) { a.Sum = -impl.MaxNumber*a.Count - 1 })
		for _, n := range []int{math.MinInt, math.MinInt + 1, math.MaxInt, math.MaxInt - 1, 2 * impl.MaxNumber * impl.MaxCount, -2 * impl.MaxNumber * impl.MaxCount} {
			add("a Sum far off", from, func(a *impl.Agg) { a.Sum = n })
		}
		add("a full one with a Sum", from, func(a *impl.Agg) { a.Full = true })
	}
	add("a count above its Hist", plain, func(a *impl.Agg) { a.Count++ })
	add("a Hist whose total comes round", plain, func(a *impl.Agg) {
		a.Hist = []int{math.MaxInt, math.MaxInt, 7, 0, 0, 0, 0, 0}
	})
	add("a Hist with one below 0 that adds up", plain, func(a *impl.Agg) { a.Hist[3], a.Hist[0] = -1, 3 })
	for _, n := range []int{1, -1, impl.MaxNumber, -impl.MaxNumber, math.MaxInt, math.MinInt} {
		add("a full one with a Sum", full, func(a *impl.Agg) { a.Sum = n })
		add("none with a Sum", noAgg(), func(a *impl.Agg) { a.Sum = n })
		add("none with a Min", noAgg(), func(a *impl.Agg) { a.Min = n })
		add("none with a Max", noAgg(), func(a *impl.Agg) { a.Max = n })
		add("none with a Min and a Max", noAgg(), func(a *impl.Agg) { a.Min, a.Max = n, n })
		for i := range impl.Buckets {
			add("none with a Hist", noAgg(), func(a *impl.Agg) { a.Hist[i] = n })
		}
	}
	add("none that is full", noAgg(), func(a *impl.Agg) { a.Full = true })
	add("none that is full, with a Hist", noAgg(), func(a *impl.Agg) { a.Full, a.Hist[0] = true, 1 })
	add("none, with a Hist that adds up to 0", noAgg(), func(a *impl.Agg) { a.Hist[0], a.Hist[1] = 1, -1 })
	for _, many := range []int{0, 1, 7, 9} {
		add("none with a Hist of another length", noAgg(), func(a *impl.Agg) { a.Hist = make([]int, many) })
	}
	add("all noughts", impl.Agg{}, func(a *impl.Agg) {})
	return out
}

func TestPromise13ValuesThatAreNone(t *testing.T) {
	for _, v := range []int{
		impl.MaxNumber + 1, -impl.MaxNumber - 1, impl.MaxNumber + 2, -impl.MaxNumber - 2, 2 * impl.MaxNumber, -2 * impl.MaxNumber,
		1 << 32, -1 << 32, 1<<32 + 5, -1<<32 + 5, 1 << 62, math.MaxInt, math.MaxInt - 1, math.MinInt, math.MinInt + 1,
	} {
		if n := impl.BucketOf(v); n != -1 {
			t.Errorf("BucketOf(%d) = %d, want -1", v, n)
		}
		if a, ok := impl.AggOf(v); ok || !sameAgg(a, noAgg()) {
			t.Errorf("AggOf(%d) = %v, %v, want the zero agg and false", v, a, ok)
		}
	}
}

func TestPromise13AggsThatAreNotGood(t *testing.T) {
	for _, c := range badAggs() {
		if impl.GoodAgg(c.agg) {
			t.Errorf("%s: GoodAgg(%v) is true", c.what, c.agg)
		}
		if b, ok := impl.AggBytes(c.agg); len(b) != 0 || ok {
			t.Errorf("%s: AggBytes(%v) = %q, %v", c.what, c.agg, b, ok)
		}
		if n, ok := impl.MeanOf(c.agg); n != 0 || ok {
			t.Errorf("%s: MeanOf(%v) = %d, %v", c.what, c.agg, n, ok)
		}
		for _, a := range []impl.Agg{noAgg(), manyOf(3, 12, 3), fullOf(1, -5, 3, 1), c.agg} {
			for _, two := range [][2]impl.Agg{{a, c.agg}, {c.agg, a}} {
				if x, ok := impl.JoinAggs(two[0], two[1]); ok || !sameAgg(x, noAgg()) {
					t.Errorf("%s: JoinAggs(%v, %v) = %v, %v, want the zero agg and false", c.what, two[0], two[1], x, ok)
				}
			}
		}
	}
}

func TestPromise13MeansThatAreNone(t *testing.T) {
	for _, a := range []impl.Agg{noAgg(), fullOf(1, 0, 0), fullOf(1, -5, 3, 1), fullOf(impl.MaxCount, 5, 5, impl.MaxCount)} {
		if n, ok := impl.MeanOf(a); n != 0 || ok {
			t.Errorf("MeanOf(%v) = %d, %v, want 0 and false", a, n, ok)
		}
	}
}

func TestPromise13BytesThatAreNoAgg(t *testing.T) {
	for _, b := range [][]byte{nil, {}, {0}, {1}, {2}, {255}, make([]byte, 12), make([]byte, 14), make([]byte, 5000)} {
		checkNoAgg(t, "no agg", b)
	}
	for c := 1; c < 256; c++ {
		for many := range 40 {
			checkNoAgg(t, "one byte many times", bytes.Repeat([]byte{byte(c)}, many))
		}
	}
	for _, form := range []string{
		"\xff\xff\xff\xff\xff\xff\xff\xff\xff\x01",
		"\xfe\xff\xff\xff\xff\xff\xff\xff\xff\x01",
		"\xff\xff\xff\xff\xff\xff\xff\xff\xff\x02",
		"\x80\x80\x80\x80\x80\x80\x80\x80\x80\x80\x01",
	} {
		for at := 1; at < 13; at++ {
			for _, first := range []byte{0, 1} {
				b := slices.Concat(make([]byte, at), []byte(form), make([]byte, 12-at))
				b[0] = first
				checkNoAgg(t, "a number that is far off", b)
			}
		}
	}
}

func TestPromise13AggArgumentsStay(t *testing.T) {
	list := goodAggs()
	for _, c := range badAggs() {
		list = append(list, c.agg)
	}
	for _, a := range list {
		row := append(copyAgg(a).Hist, 7, 8, 9)
		kept := slices.Clone(row)
		a.Hist = row[:len(a.Hist)]
		before := a
		impl.GoodAgg(a)
		impl.AggBytes(a)
		impl.MeanOf(a)
		impl.JoinAggs(a, a)
		for _, b := range []impl.Agg{noAgg(), manyOf(1, 5, 2), fullOf(1, 2, 3)} {
			other := copyAgg(b)
			impl.JoinAggs(a, other)
			impl.JoinAggs(other, a)
			if !sameAgg(other, b) {
				t.Errorf("written into %v", b)
			}
		}
		if !sameAgg(a, before) || !slices.Equal(row, kept) {
			t.Errorf("written into: %v, it was %v", row, kept)
		}
	}
}

func TestPromise13BytesOfAggsStay(t *testing.T) {
	for _, a := range goodAggs() {
		b := append(plainAggBytes(a), 1, 2, 3)
		kept := slices.Clone(b)
		for cut := range len(b) + 1 {
			impl.ReadAgg(b[:cut])
		}
		if !bytes.Equal(b, kept) {
			t.Errorf("written into: %q, it was %q", b, kept)
		}
	}
}

func fillHist(a impl.Agg) {
	row := a.Hist[:cap(a.Hist)]
	for i := range row {
		row[i] = -77
	}
}

func TestPromise13AggAnswersAreNew(t *testing.T) {
	for _, a := range goodAggs() {
		for _, b := range goodAggs() {
			x, y := copyAgg(a), copyAgg(b)
			one, other := mustJoin(t, x, y), mustJoin(t, x, y)
			fillHist(one)
			if !sameAgg(x, a) || !sameAgg(y, b) || !sameAgg(other, plainJoin(a, b)) {
				t.Fatalf("JoinAggs(%v, %v) shares memory", a, b)
			}
			fillHist(x)
			fillHist(y)
			if !sameAgg(other, plainJoin(a, b)) {
				t.Fatalf("JoinAggs(%v, %v) changed with its arguments", a, b)
			}
		}
		b := plainAggBytes(a)
		one, _ := impl.ReadAgg(b)
		other, _ := impl.ReadAgg(b)
		fillHist(one)
		if !sameAgg(other, a) {
			t.Fatal("ReadAgg's answers share memory")
		}
		form, _ := impl.AggBytes(a)
		again, _ := impl.AggBytes(a)
		fill(form)
		if !bytes.Equal(again, b) {
			t.Fatal("AggBytes' answers share memory")
		}
	}
	one, _ := impl.AggOf(5)
	other, _ := impl.AggOf(5)
	fillHist(one)
	if third, _ := impl.AggOf(5); !sameAgg(other, manyOf(1, 5, 2)) || !sameAgg(third, other) {
		t.Error("AggOf's answers share memory")
	}
}

func TestPromise13ZeroAggsAreNew(t *testing.T) {
	bad := impl.Agg{}
	for range 3 {
		for what, tell := range map[string]func() (impl.Agg, bool){
			"AggOf":               func() (impl.Agg, bool) { return impl.AggOf(math.MaxInt) },
			"JoinAggs":            func() (impl.Agg, bool) { return impl.JoinAggs(bad, bad) },
			"ReadAgg":             func() (impl.Agg, bool) { return impl.ReadAgg(nil) },
			"ReadAgg of one bad":  func() (impl.Agg, bool) { return impl.ReadAgg(make([]byte, 14)) },
			"JoinAggs of one bad": func() (impl.Agg, bool) { return impl.JoinAggs(noAgg(), bad) },
		} {
			a, ok := tell()
			if ok || !sameAgg(a, noAgg()) || !impl.GoodAgg(a) {
				t.Errorf("%s = %v, %v, want the zero agg and false", what, a, ok)
			}
			fillHist(a)
		}
		if a, ok := impl.JoinAggs(noAgg(), noAgg()); !ok || !sameAgg(a, noAgg()) {
			t.Errorf("none and none are %v, %v", a, ok)
		} else {
			fillHist(a)
		}
	}
}

func TestPromise13NothingBehindAggAnswers(t *testing.T) {
	check := func(what string, a impl.Agg) {
		t.Helper()
		for _, n := range a.Hist[len(a.Hist):cap(a.Hist)] {
			if n != 0 {
				t.Fatalf("%s: behind the length lies %d", what, n)
			}
		}
	}
	for _, a := range goodAggs() {
		row := slices.Concat(a.Hist, []int{5, 6, 7})
		a.Hist = row[:impl.Buckets]
		x, _ := impl.JoinAggs(a, a)
		check("JoinAggs", x)
		y, _ := impl.ReadAgg(plainAggBytes(a))
		check("ReadAgg", y)
		b, _ := impl.AggBytes(a)
		if behind := b[len(b):cap(b)]; !bytes.Equal(behind, make([]byte, len(behind))) {
			t.Fatalf("AggBytes: behind the length lies %q", behind)
		}
	}
}

func TestPromise13NothingBehindLengthsOfAggs(t *testing.T) {
	for _, a := range goodAggs() {
		row := slices.Concat(a.Hist, []int{-1, math.MaxInt, 5})
		loose := a
		loose.Hist = row[:impl.Buckets]
		if !impl.GoodAgg(loose) || !sameAgg(mustJoin(t, loose, loose), plainJoin(a, a)) {
			t.Errorf("%v hangs on what lies behind its Hist", a)
		}
		checkComesBack(t, loose)
		loose.Hist = row[:impl.Buckets-1]
		if impl.GoodAgg(loose) {
			t.Errorf("%v is good by what lies behind its Hist", loose)
		}
		b := append(plainAggBytes(a), 0, 1, 2)
		if back, ok := impl.ReadAgg(b[: len(b)-3 : len(b)]); !ok || !sameAgg(back, a) {
			t.Errorf("ReadAgg(%q) = %v, %v", b[:len(b)-3], back, ok)
		}
		checkNoAgg(t, "cut by one", b[:len(b)-4])
	}
}
