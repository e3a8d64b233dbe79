package tests

import (
	"bytes"
	"hash/crc32"
	"math"
	"reflect"
	"slices"
	"testing"

	"loop.example/g00150/impl"
)

// varForms are numbers with their bytes, written out by hand at both edges of each length.
var varForms = []struct {
	n uint64
	b string
}{
	{0, "\x00"},
	{1, "\x01"},
	{127, "\x7f"},
	{128, "\x80\x01"},
	{300, "\xac\x02"},
	{16383, "\xff\x7f"},
	{16384, "\x80\x80\x01"},
	{1<<21 - 1, "\xff\xff\x7f"},
	{1 << 21, "\x80\x80\x80\x01"},
	{1<<28 - 1, "\xff\xff\xff\x7f"},
	{1 << 28, "\x80\x80\x80\x80\x01"},
	{1<<35 - 1, "\xff\xff\xff\xff\x7f"},
	{1 << 35, "\x80\x80\x80\x80\x80\x01"},
	{1<<42 - 1, "\xff\xff\xff\xff\xff\x7f"},
	{1 << 42, "\x80\x80\x80\x80\x80\x80\x01"},
	{1<<49 - 1, "\xff\xff\xff\xff\xff\xff\x7f"},
	{1 << 49, "\x80\x80\x80\x80\x80\x80\x80\x01"},
	{1<<56 - 1, "\xff\xff\xff\xff\xff\xff\xff\x7f"},
	{1 << 56, "\x80\x80\x80\x80\x80\x80\x80\x80\x01"},
	{1<<63 - 1, "\xff\xff\xff\xff\xff\xff\xff\xff\x7f"},
	{1 << 63, "\x80\x80\x80\x80\x80\x80\x80\x80\x80\x01"},
	{math.MaxUint64, "\xff\xff\xff\xff\xff\xff\xff\xff\xff\x01"},
}

func checkVar(t *testing.T, b []byte, at int, n uint64, behind int) {
	t.Helper()
	got, place, ok := impl.ReadVar(b, at)
	if got != n || place != behind || !ok {
		t.Errorf("ReadVar(%q, %d) = %d, %d, %v, want %d, %d, true", b, at, got, place, ok, n, behind)
	}
}

func checkNoVar(t *testing.T, b []byte, at int) {
	t.Helper()
	n, place, ok := impl.ReadVar(b, at)
	if n != 0 || place != 0 || ok {
		t.Errorf("ReadVar(%q, %d) = %d, %d, %v, want the zero answer", b, at, n, place, ok)
	}
}

func TestPromise1VarForms(t *testing.T) {
	for _, f := range varForms {
		if b := impl.PutVar(f.n); string(b) != f.b {
			t.Errorf("PutVar(%d) = %q, want %q", f.n, b, f.b)
		}
		checkVar(t, []byte(f.b), 0, f.n, len(f.b))
		checkVar(t, []byte(f.b+"\xff\x00"), 0, f.n, len(f.b))
		checkVar(t, []byte("\x80\x80\x80"+f.b), 3, f.n, 3+len(f.b))
		checkVar(t, []byte("\x07"+f.b+"\x80"), 1, f.n, 1+len(f.b))
	}
}

func TestPromise1VarComesBack(t *testing.T) {
	for shift := range 64 {
		for off := range 5 {
			n := uint64(1)<<shift + uint64(off) - 2
			b := impl.PutVar(n)
			if len(b) < 1 || len(b) > 10 {
				t.Errorf("PutVar(%d) has %d bytes", n, len(b))
			}
			checkVar(t, b, 0, n, len(b))
		}
	}
	n := uint64(88172645463325252)
	var row []byte
	var numbers []uint64
	for i := range 500 {
		n ^= n << 13
		n ^= n >> 7
		n ^= n << 17
		numbers = append(numbers, n>>(i%64))
		row = append(row, impl.PutVar(n>>(i%64))...)
	}
	at := 0
	for _, want := range numbers {
		behind := at + len(impl.PutVar(want))
		checkVar(t, row, at, want, behind)
		at = behind
	}
}

func TestPromise1VarRefused(t *testing.T) {
	for _, f := range varForms {
		for many := range len(f.b) {
			checkNoVar(t, []byte(f.b[:many]), 0)
			checkNoVar(t, []byte("\x01"+f.b[:many]), 1)
		}
		longer := []byte(f.b)
		longer[len(longer)-1] |= 128
		for len(longer) < 12 {
			checkNoVar(t, append(slices.Clone(longer), 0), 0)
			longer = append(longer, 128)
		}
	}
	nine := bytes.Repeat([]byte{255}, 9)
	for last := 2; last < 256; last++ {
		checkNoVar(t, append(slices.Clone(nine), byte(last)), 0)
	}
	checkNoVar(t, append(slices.Clone(nine), 0), 0)
	checkNoVar(t, append(slices.Clone(nine), 129, 0), 0)
	checkNoVar(t, append(slices.Clone(nine), 129, 1), 0)
	checkNoVar(t, append(slices.Clone(nine), 128, 1), 0)
	checkNoVar(t, bytes.Repeat([]byte{128}, 30), 0)
	checkNoVar(t, bytes.Repeat([]byte{255}, 30), 4)
}

func TestPromise1VarOfTwoBytes(t *testing.T) {
	for a := range 256 {
		for b := range 256 {
			form := []byte{byte(a), byte(b)}
			switch {
			case a < 128:
				checkVar(t, form, 0, uint64(a), 1)
			case b >= 1 && b < 128:
				checkVar(t, form, 0, uint64(a-128+128*b), 2)
			default:
				checkNoVar(t, form, 0)
			}
		}
	}
}

func checkFixed(t *testing.T, n int, many int, want string) {
	t.Helper()
	b, ok := impl.PutFixed(n, many)
	if string(b) != want || !ok {
		t.Errorf("PutFixed(%d, %d) = %q, %v, want %q", n, many, b, ok, want)
	}
	for _, head := range []string{"", "\xff", "abc"} {
		for _, tail := range []string{"", "\x00", "\xffz"} {
			got, ok := impl.ReadFixed([]byte(head+want+tail), len(head), many)
			if got != n || !ok {
				t.Errorf("ReadFixed of %q = %d, %v, want %d", head+want+tail, got, ok, n)
			}
		}
	}
}

func TestPromise1FixedForms(t *testing.T) {
	checkFixed(t, 258, 2, "\x01\x02")
	checkFixed(t, 258, 4, "\x00\x00\x01\x02")
	checkFixed(t, 0x0102030405060708, 8, "\x01\x02\x03\x04\x05\x06\x07\x08")
	checkFixed(t, math.MaxInt, 8, "\x7f\xff\xff\xff\xff\xff\xff\xff")
	checkFixed(t, 1<<56, 8, "\x01\x00\x00\x00\x00\x00\x00\x00")
	for many := 1; many <= 8; many++ {
		noughts := string(make([]byte, many-1))
		checkFixed(t, 0, many, noughts+"\x00")
		checkFixed(t, 1, many, noughts+"\x01")
		checkFixed(t, 255, many, noughts+"\xff")
		if many < 8 {
			checkFixed(t, 1<<(8*many)-1, many, string(bytes.Repeat([]byte{255}, many)))
			checkFixed(t, 1<<(8*many-1), many, "\x80"+noughts)
		}
	}
}

func checkNoPutFixed(t *testing.T, n int, many int) {
	t.Helper()
	if b, ok := impl.PutFixed(n, many); len(b) != 0 || ok {
		t.Errorf("PutFixed(%d, %d) = %q, %v, want the zero answer", n, many, b, ok)
	}
}

func checkNoReadFixed(t *testing.T, b []byte, at int, many int) {
	t.Helper()
	if n, ok := impl.ReadFixed(b, at, many); n != 0 || ok {
		t.Errorf("ReadFixed(%q, %d, %d) = %d, %v, want the zero answer", b, at, many, n, ok)
	}
}

func TestPromise1FixedRefused(t *testing.T) {
	for many := 1; many <= 8; many++ {
		checkNoPutFixed(t, -1, many)
		checkNoPutFixed(t, math.MinInt, many)
		if many < 8 {
			checkNoPutFixed(t, 1<<(8*many), many)
			checkNoPutFixed(t, 1<<(8*many)+1, many)
			checkNoPutFixed(t, math.MaxInt, many)
		}
		b := bytes.Repeat([]byte{1}, many)
		checkNoReadFixed(t, b[:many-1], 0, many)
		checkNoReadFixed(t, b, 1, many)
		checkNoReadFixed(t, b, -1, many)
	}
	for first := 128; first < 256; first++ {
		checkNoReadFixed(t, []byte{byte(first), 0, 0, 0, 0, 0, 0, 0}, 0, 8)
	}
	checkNoReadFixed(t, bytes.Repeat([]byte{255}, 8), 0, 8)
}

func TestPromise1Crc(t *testing.T) {
	rising := make([]byte, 32)
	falling := make([]byte, 32)
	for i := range 32 {
		rising[i] = byte(i)
		falling[i] = byte(31 - i)
	}
	for _, c := range []struct {
		b    []byte
		want uint32
	}{
		{nil, 0},
		{[]byte{}, 0},
		{[]byte("a"), 0xC1D04330},
		{[]byte("123456789"), 0xE3069283},
		{make([]byte, 32), 0x8A9136AA},
		{bytes.Repeat([]byte{255}, 32), 0x62A8AB43},
		{rising, 0x46DD794E},
		{falling, 0x113FDB5C},
	} {
		if got := impl.Crc32c(c.b); got != c.want {
			t.Errorf("Crc32c(%q) = %08X, want %08X", c.b, got, c.want)
		}
	}
}

func TestPromise1CrcOfManyBytes(t *testing.T) {
	table := crc32.MakeTable(crc32.Castagnoli)
	b := make([]byte, 600)
	for i := range b {
		b[i] = byte(i*i*7 + i*13 + i/5)
	}
	for many := range b {
		if got, want := impl.Crc32c(b[:many]), crc32.Checksum(b[:many], table); got != want {
			t.Errorf("Crc32c of %d bytes = %08X, want %08X", many, got, want)
		}
	}
	for c := range 256 {
		one := []byte{byte(c)}
		if got, want := impl.Crc32c(one), crc32.Checksum(one, table); got != want {
			t.Errorf("Crc32c of the byte %d = %08X, want %08X", c, got, want)
		}
	}
}

func tagsOf(words ...string) []impl.Tag {
	var tags []impl.Tag
	for i := 0; i+1 < len(words); i += 2 {
		tags = append(tags, impl.Tag{Name: words[i], Value: words[i+1]})
	}
	return tags
}

func keyOf(metric string, start int, words ...string) impl.Key {
	return impl.Key{Metric: metric, Tags: tagsOf(words...), Start: start}
}

func sameKey(a impl.Key, b impl.Key) bool {
	return a.Metric == b.Metric && slices.Equal(a.Tags, b.Tags) && a.Start == b.Start
}

// keysInOrder rise: each one is less than all behind it.
func keysInOrder() []impl.Key {
	return []impl.Key{
		keyOf("A", 0),
		keyOf("Z", 0),
		keyOf("Z", 1, "z", "z"),
		keyOf("ZZ", 0),
		keyOf("Za", 0),
		keyOf("a", 0),
		keyOf("a", 1),
		keyOf("a", impl.MaxStart),
		keyOf("a", 0, "A", "z"),
		keyOf("a", 7, "A", "z"),
		keyOf("a", 0, "A", "z", "a", "a", "b", "b", "c", "c"),
		keyOf("a", 9, "a", "Z"),
		keyOf("a", 9, "a", "a"),
		keyOf("a", 255, "a", "a"),
		keyOf("a", 256, "a", "a"),
		keyOf("a", 65535, "a", "a"),
		keyOf("a", 65536, "a", "a"),
		keyOf("a", 1<<24, "a", "a"),
		keyOf("a", impl.MaxStart, "a", "a"),
		keyOf("a", 0, "a", "a", "b", "a"),
		keyOf("a", 0, "a", "a", "b", "a", "c", "a"),
		keyOf("a", 0, "a", "a", "b", "a", "c", "a", "d", "a"),
		keyOf("a", 0, "a", "a", "b", "a", "c", "b"),
		keyOf("a", 0, "a", "a", "b", "b"),
		keyOf("a", 0, "a", "a", "ba", "a"),
		keyOf("a", 0, "a", "aa"),
		keyOf("a", 0, "a", "ab", "b", "a"),
		keyOf("a", 0, "a", "b"),
		keyOf("a", 5, "aZ", "a"),
		keyOf("a", 5, "aa", "a"),
		keyOf("a", 5, "aaaaaaaaaaaa", "aaaaaaaaaaaa"),
		keyOf("a", 0, "b", "a"),
		keyOf("a", 0, "z", "A"),
		keyOf("aA", 0),
		keyOf("aa", 0),
		keyOf("aaaaaaaaaaaa", 0),
		keyOf("b", 0),
		keyOf("cpu", 9),
		keyOf("cpu", 258, "a", "x"),
		keyOf("zzzzzzzzzzzz", impl.MaxStart, "wwwwwwwwwwww", "zzzzzzzzzzzz", "xxxxxxxxxxxx", "zzzzzzzzzzzz", "yyyyyyyyyyyy", "zzzzzzzzzzzz", "zzzzzzzzzzzz", "zzzzzzzzzzzz"),
	}
}

func TestPromise1KeyForms(t *testing.T) {
	for _, c := range []struct {
		k    impl.Key
		want string
	}{
		{keyOf("m", 0), "m\x00\x01\x00\x00\x00\x00\x00\x00\x00\x00"},
		{keyOf("cpu", 258, "a", "x"), "cpu\x00\x02a\x01x\x00\x01\x00\x00\x00\x00\x00\x00\x01\x02"},
		{keyOf("cpu", impl.MaxStart, "Ab", "xY", "a", "Z"), "cpu\x00\x02Ab\x01xY\x00\x02a\x01Z\x00\x01\x00\x00\x00\x00\x3b\x9a\xca\x00"},
		{keyOf("q", 1, "a", "b", "c", "d", "e", "f", "g", "h"), "q\x00\x02a\x01b\x00\x02c\x01d\x00\x02e\x01f\x00\x02g\x01h\x00\x01\x00\x00\x00\x00\x00\x00\x00\x01"},
	} {
		if b, ok := impl.KeyBytes(c.k); string(b) != c.want || !ok {
			t.Errorf("KeyBytes(%v) = %q, %v, want %q", c.k, b, ok, c.want)
		}
		if k, ok := impl.ReadKey([]byte(c.want)); !sameKey(k, c.k) || !ok {
			t.Errorf("ReadKey(%q) = %v, %v, want %v", c.want, k, ok, c.k)
		}
	}
}

func TestPromise1KeysComeBack(t *testing.T) {
	for _, k := range keysInOrder() {
		if !impl.GoodKey(k) {
			t.Errorf("GoodKey(%v) = false", k)
		}
		b, ok := impl.KeyBytes(k)
		if !ok {
			t.Errorf("KeyBytes(%v) refused", k)
		}
		if back, ok := impl.ReadKey(b); !sameKey(back, k) || !ok {
			t.Errorf("ReadKey(%q) = %v, %v, want %v", b, back, ok, k)
		}
	}
}

func TestPromise1KeysHaveOneOrder(t *testing.T) {
	keys := keysInOrder()
	for i, a := range keys {
		for j, b := range keys {
			want := 0
			if i < j {
				want = -1
			} else if i > j {
				want = 1
			}
			if got := impl.CompareKeys(a, b); got != want {
				t.Errorf("CompareKeys(%v, %v) = %d, want %d", a, b, got, want)
			}
			x, _ := impl.KeyBytes(a)
			y, _ := impl.KeyBytes(b)
			if got := bytes.Compare(x, y); got != want {
				t.Errorf("bytes of %v against %v: %d, want %d", a, b, got, want)
			}
		}
	}
}

func TestPromise1EqualKeysInOtherMemory(t *testing.T) {
	again := keysInOrder()
	for i, k := range keysInOrder() {
		if got := impl.CompareKeys(k, again[i]); got != 0 {
			t.Errorf("CompareKeys of %v with itself = %d", k, got)
		}
	}
	none := impl.Key{Metric: "a"}
	empty := impl.Key{Metric: "a", Tags: []impl.Tag{}}
	if got := impl.CompareKeys(none, empty); got != 0 {
		t.Errorf("no tags against an empty list = %d", got)
	}
	x, _ := impl.KeyBytes(none)
	y, ok := impl.KeyBytes(empty)
	if !ok || !reflect.DeepEqual(x, y) {
		t.Errorf("bytes of no tags %q, of an empty list %q", x, y)
	}
}
