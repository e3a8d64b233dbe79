package tests

import (
	"bytes"
	"math"
	"slices"
	"strings"
	"testing"

	"loop.example/g00150/impl"
)

func farInts() []int {
	return []int{math.MinInt, math.MinInt + 1, math.MaxInt, math.MaxInt - 1, 1 << 32, -1 << 32, 1<<32 + 1, 1 << 62, -1 << 62}
}

func TestPromise13SeedsThatAreNone(t *testing.T) {
	for _, seed := range append([]int{-1, -2, -1000, 1001, 1002, 65536, 1<<32 + 1000}, farInts()...) {
		for _, text := range []string{"", "a", "\xff", strings.Repeat("k", 1000)} {
			if n, ok := impl.HashOf(text, seed); n != 0 || ok {
				t.Errorf("HashOf(%q, %d) = %d, %v, want 0 and false", text, seed, n, ok)
			}
		}
	}
	for _, seed := range []int{0, 1000} {
		if _, ok := impl.HashOf("", seed); !ok {
			t.Errorf("HashOf of the seed %d is false", seed)
		}
	}
}

func checkNoFilterOf(t *testing.T, keys []string, perKey int) {
	t.Helper()
	if f, ok := impl.FilterOf(keys, perKey); ok || !sameFilter(f, impl.Filter{}) {
		t.Errorf("FilterOf of %d keys, %d = %v, %v, want zero and false", len(keys), perKey, f, ok)
	}
}

func TestPromise13FilterOfWrongArguments(t *testing.T) {
	for _, perKey := range append([]int{0, -1, -20, 21, 22, 100, 256 + 1}, farInts()...) {
		for _, many := range []int{0, 1, 2, 100, 101} {
			checkNoFilterOf(t, namedKeys("k", many), perKey)
		}
	}
	for perKey := 1; perKey <= 20; perKey++ {
		for _, many := range []int{101, 102, 200, 1000} {
			checkNoFilterOf(t, namedKeys("k", many), perKey)
			checkNoFilterOf(t, slices.Repeat([]string{"a"}, many), perKey)
		}
		mustFilter(t, slices.Repeat([]string{"a"}, 100), perKey)
	}
}

func badFilters() []impl.Filter {
	var out []impl.Filter
	for _, ways := range append([]int{0, -1, -8, 9, 10, 256 + 1, 65536 + 8}, farInts()...) {
		for _, many := range []int{0, 1, 8, impl.MaxFilter, impl.MaxFilter + 1} {
			out = append(out, filterWithout(ways, many))
		}
	}
	for ways := 1; ways <= 8; ways++ {
		for _, many := range []int{0, impl.MaxFilter + 1, impl.MaxFilter + 2, 256, 1000} {
			out = append(out, filterWithout(ways, many))
		}
		out = append(out, impl.Filter{Ways: ways})
	}
	return append(out, impl.Filter{})
}

func TestPromise13FiltersThatAreNotGood(t *testing.T) {
	for _, f := range badFilters() {
		if impl.GoodFilter(f) {
			t.Errorf("GoodFilter of %d ways, %d bytes is true", f.Ways, len(f.Bits))
		}
		for _, key := range oddKeys() {
			if impl.MayHave(f, key) {
				t.Errorf("MayHave of %d ways, %d bytes is true", f.Ways, len(f.Bits))
			}
		}
		if b, ok := impl.FilterBytes(f); len(b) != 0 || ok {
			t.Errorf("FilterBytes of %d ways, %d bytes = %q, %v", f.Ways, len(f.Bits), b, ok)
		}
	}
}

func TestPromise13FiltersAtTheirLimits(t *testing.T) {
	for _, ways := range []int{1, 8} {
		for _, many := range []int{1, impl.MaxFilter} {
			f := filterWithout(ways, many)
			if !impl.GoodFilter(f) || !impl.MayHave(f, "a") || !impl.MayHave(f, "") {
				t.Errorf("a filter of %d ways, %d bytes is not good", ways, many)
			}
			if b, ok := impl.FilterBytes(f); len(b) != many+1 || !ok {
				t.Errorf("FilterBytes of %d ways, %d bytes = %q, %v", ways, many, b, ok)
			}
		}
	}
}

func TestPromise13BytesThatAreNoFilter(t *testing.T) {
	list := [][]byte{nil, {}, make([]byte, 5), make([]byte, 5000)}
	for c := range 256 {
		list = append(list, []byte{byte(c)})
		for _, many := range []int{201, 202, 257, 1000} {
			list = append(list, append([]byte{byte(c)}, make([]byte, many)...))
		}
		if c < 1 || c > 8 {
			list = append(list, []byte{byte(c), 1}, append([]byte{byte(c)}, bytes.Repeat([]byte{3}, 200)...))
		}
	}
	for _, b := range list {
		if f, ok := impl.ReadFilter(b); ok || !sameFilter(f, impl.Filter{}) {
			t.Errorf("ReadFilter of %d bytes from %q on = %v, %v, want zero and false", len(b), b[:min(len(b), 2)], f, ok)
		}
	}
}

func checkNoKeep(t *testing.T, what string, l []int, most int, block int) {
	t.Helper()
	if out, gone, ok := impl.KeepBlock(l, most, block); len(out) != 0 || gone != 0 || ok {
		t.Errorf("%s: KeepBlock(%v, %d, %d) = %v, %d, %v, want zero and false", what, l, most, block, out, gone, ok)
	}
}

func upTo(many int) []int {
	var out []int
	for i := range many {
		out = append(out, i)
	}
	return out
}

func TestPromise13KeepBlockWrongArguments(t *testing.T) {
	blocks := []int{0, 1, 49, 50, 51, -1, math.MinInt, math.MaxInt}
	for _, block := range blocks {
		for _, most := range append([]int{0, -1, -50, 51, 52, 100, 256 + 1}, farInts()...) {
			for _, many := range []int{0, 1, 50, 51} {
				checkNoKeep(t, "most is none", upTo(many), most, block)
			}
		}
		for _, many := range []int{51, 52, 100, 1000} {
			for _, most := range []int{1, 49, 50, 51} {
				checkNoKeep(t, "too many numbers", upTo(many), most, block)
			}
		}
		for most := 1; most < 50; most++ {
			checkNoKeep(t, "more numbers than most", upTo(most+1), most, block)
			checkNoKeep(t, "50 numbers", upTo(50), most, block)
		}
	}
	checkKeep(t, upTo(50), 50, 0, append(upTo(50)[1:], 0), -1)
	checkKeep(t, upTo(50), 50, 50, upTo(51)[1:], 0)
}

func TestPromise13KeepBlockOfNumbersAlike(t *testing.T) {
	for _, l := range [][]int{
		{1, 1}, {0, 0}, {-1, -1}, {1, 2, 1}, {1, 2, 2}, {1, 1, 2}, {1, 1, 1}, {5, 3, 9, 7, 3},
		{math.MinInt, 0, math.MinInt}, {math.MaxInt, math.MaxInt}, slices.Repeat([]int{7}, 50),
	} {
		for _, block := range append([]int{0, 1, 2, 3, 7, -1}, farInts()...) {
			for _, most := range []int{len(l), 50} {
				checkNoKeep(t, "numbers alike", l, most, block)
			}
		}
	}
	for place := 1; place < 50; place++ {
		l := upTo(50)
		l[place] = l[place-1]
		checkNoKeep(t, "two alike", l, 50, l[place])
		checkNoKeep(t, "two alike", l, 50, 100)
		l[place], l[0] = 100, 100
		checkNoKeep(t, "two alike, far off", l, 50, 100)
	}
}

func TestPromise13FilterArgumentsStay(t *testing.T) {
	keys := append(namedKeys("k", 100), "behind", "more")
	keptKeys := slices.Clone(keys)
	for _, many := range []int{0, 1, 2, 50, 100, 101} {
		for perKey := 0; perKey <= 21; perKey++ {
			impl.FilterOf(keys[:many], perKey)
		}
	}
	if !slices.Equal(keys, keptKeys) {
		t.Errorf("written into %q", keys)
	}
	for _, many := range []int{0, 1, 8, 200, 201} {
		bits := bytesOf(many+20, 9)
		kept := slices.Clone(bits)
		for ways := 0; ways <= 9; ways++ {
			f := impl.Filter{Ways: ways, Bits: bits[:many]}
			impl.GoodFilter(f)
			impl.MayHave(f, "a")
			impl.FilterBytes(f)
		}
		for cut := range bits {
			impl.ReadFilter(bits[:cut])
		}
		if !bytes.Equal(bits, kept) {
			t.Errorf("written into %q, it was %q", bits, kept)
		}
	}
}

func TestPromise13KeepBlockArgumentsStay(t *testing.T) {
	row := append(upTo(50), 77, 78, 79)
	kept := slices.Clone(row)
	for many := range row {
		for most := range 52 {
			for _, block := range []int{0, many - 1, many, 77, -1} {
				out, _, ok := impl.KeepBlock(row[:many], most, block)
				if ok && (many > most || slices.Contains(out[:len(out)-1], block)) {
					t.Fatalf("KeepBlock(%v, %d, %d) = %v", row[:many], most, block, out)
				}
			}
		}
		if !slices.Equal(row, kept) {
			t.Fatalf("written into %v, it was %v", row, kept)
		}
	}
}

func TestPromise13FilterAnswersAreNew(t *testing.T) {
	for _, many := range []int{1, 8, 200} {
		f := impl.Filter{Ways: 3, Bits: bytesOf(many, 1)}
		want := append([]byte{3}, f.Bits...)
		b, _ := impl.FilterBytes(f)
		again, _ := impl.FilterBytes(f)
		fill(b)
		if !bytes.Equal(f.Bits, want[1:]) || !bytes.Equal(again, want) {
			t.Errorf("FilterBytes of %d bytes shares memory", many)
		}
		fill(f.Bits)
		if !bytes.Equal(again, want) {
			t.Errorf("FilterBytes of %d bytes changed with its argument", many)
		}
		form := slices.Clone(want)
		one, _ := impl.ReadFilter(form)
		other, _ := impl.ReadFilter(form)
		fill(one.Bits)
		if !bytes.Equal(form, want) || !bytes.Equal(other.Bits, want[1:]) {
			t.Errorf("ReadFilter of %d bytes shares memory", many)
		}
		fill(form)
		if !bytes.Equal(other.Bits, want[1:]) {
			t.Errorf("ReadFilter of %d bytes changed with its argument", many)
		}
	}
	for _, keys := range keyLists() {
		one, other := mustFilter(t, keys, 10), mustFilter(t, keys, 10)
		fill(one.Bits)
		if want := plainFilter(keys, 10); !sameFilter(other, want) || !sameFilter(mustFilter(t, keys, 10), want) {
			t.Errorf("FilterOf(%q, 10) shares memory", keys)
		}
	}
}

func fillInts(l []int) {
	l = l[:cap(l)]
	for i := range l {
		l[i] = -77
	}
}

func TestPromise13KeepBlockAnswersAreNew(t *testing.T) {
	for many := range 51 {
		for _, block := range []int{0, many / 2, many - 1, many, 1000} {
			for _, most := range []int{max(many, 1), min(many+1, 50)} {
				l := slices.Grow(upTo(many), 5)
				one, _, _ := impl.KeepBlock(l, most, block)
				other, _, _ := impl.KeepBlock(l, most, block)
				told := slices.Clone(other)
				fillInts(one)
				if !slices.Equal(l, upTo(many)) || !slices.Equal(other, told) {
					t.Fatalf("KeepBlock(%v, %d, %d) shares memory", upTo(many), most, block)
				}
				fillInts(l)
				if !slices.Equal(other, told) {
					t.Fatalf("KeepBlock(%v, %d, %d) changed with its argument", upTo(many), most, block)
				}
			}
		}
	}
}

func checkNoughtsBehind[T comparable](t *testing.T, what string, l []T) {
	t.Helper()
	var nought T
	for _, n := range l[len(l):cap(l)] {
		if n != nought {
			t.Fatalf("%s: behind the length lies %v", what, n)
		}
	}
}

func TestPromise13NothingBehindFilterAnswers(t *testing.T) {
	row := bytesOf(250, 1)
	for many := 1; many <= impl.MaxFilter; many++ {
		b, _ := impl.FilterBytes(impl.Filter{Ways: 3, Bits: row[:many]})
		checkNoughtsBehind(t, "FilterBytes", b)
		form := append([]byte{3}, row...)
		f, _ := impl.ReadFilter(form[:many+1])
		checkNoughtsBehind(t, "ReadFilter", f.Bits)
	}
	for _, keys := range keyLists() {
		checkNoughtsBehind(t, "FilterOf", mustFilter(t, keys, 10).Bits)
	}
	numbers := append(upTo(50), 77, 78)
	for many := range 51 {
		for _, block := range []int{0, many - 1, many, 1000} {
			out, _, _ := impl.KeepBlock(numbers[:many], max(many, 1), block)
			checkNoughtsBehind(t, "KeepBlock", out)
		}
	}
}

func TestPromise13NothingBehindLengthsOfFilters(t *testing.T) {
	keys := []string{"a", "b", "c", "d"}
	for many := range 4 {
		if f := mustFilter(t, keys[:many], 20); !sameFilter(f, plainFilter(keys[:many], 20)) {
			t.Errorf("FilterOf(%q) hangs on what lies behind", keys[:many])
		}
	}
	for _, many := range []int{1, 8, 199} {
		bits := filterWithout(8, 200).Bits
		clear(bits[:many])
		if impl.MayHave(impl.Filter{Ways: 8, Bits: bits[:many]}, "a") {
			t.Errorf("MayHave of %d bytes hangs on what lies behind", many)
		}
	}
	bits := make([]byte, 10)
	if impl.GoodFilter(impl.Filter{Ways: 1, Bits: bits[:0]}) {
		t.Error("a filter is good by what lies behind its Bits")
	}
	form := []byte{1, 2, 3}
	if f, ok := impl.ReadFilter(form[:0]); ok || !sameFilter(f, impl.Filter{}) {
		t.Errorf("ReadFilter of no bytes = %v, %v", f, ok)
	}
	if f, ok := impl.ReadFilter(form[:1]); ok || !sameFilter(f, impl.Filter{}) {
		t.Errorf("ReadFilter of one byte = %v, %v", f, ok)
	}
	numbers := []int{1, 2, 2, 1, 5}
	checkKeep(t, numbers[:2], 2, 5, []int{2, 5}, 1)
	checkKeep(t, numbers[:2], 3, 5, []int{1, 2, 5}, -1)
}
