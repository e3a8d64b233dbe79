package tests

import (
	"bytes"
	"math"
	"reflect"
	"slices"
	"strings"
	"testing"

	"loop.example/g00150/impl"
)

func TestPromise13VarPlaces(t *testing.T) {
	b := []byte{1, 2, 172, 2}
	for _, at := range []int{-1, -2, -9, math.MinInt, 4, 5, 99, math.MaxInt, math.MaxInt - 5} {
		checkNoVar(t, b, at)
	}
	for _, at := range []int{-1, 0, 1, math.MinInt, math.MaxInt} {
		checkNoVar(t, nil, at)
		checkNoVar(t, []byte{}, at)
	}
}

func TestPromise13FixedArguments(t *testing.T) {
	b := make([]byte, 40)
	for _, many := range []int{0, -1, -8, 9, 10, 16, 64, math.MinInt, math.MaxInt} {
		for _, n := range []int{0, 1, 255, math.MaxInt, -1, math.MinInt} {
			checkNoPutFixed(t, n, many)
		}
		for _, at := range []int{0, 1, 39, 40, -1, math.MinInt, math.MaxInt} {
			checkNoReadFixed(t, b, at, many)
			checkNoReadFixed(t, nil, at, many)
		}
	}
	for many := 1; many <= 8; many++ {
		for _, at := range []int{-1, -many, math.MinInt, 41 - many, 40, 41, math.MaxInt, math.MaxInt - many + 1} {
			checkNoReadFixed(t, b, at, many)
			checkNoReadFixed(t, nil, at, many)
		}
		if n, ok := impl.ReadFixed(b, 40-many, many); n != 0 || !ok {
			t.Errorf("ReadFixed of the last %d bytes = %d, %v", many, n, ok)
		}
	}
}

// The bytes behind the length would make each of these good.
func TestPromise13NothingBehindTheLength(t *testing.T) {
	b := []byte{172, 2, 0, 0, 0, 0, 0, 1}
	checkNoVar(t, b[:1], 0)
	checkNoVar(t, b[:1], 1)
	checkNoReadFixed(t, b[:7], 0, 8)
	checkNoReadFixed(t, b[:1], 1, 1)
	whole, _ := impl.KeyBytes(keyOf("cpu", 258, "a", "x"))
	room := slices.Grow(slices.Clone(whole), 20)
	for many := range whole {
		checkNoKey(t, room[:many])
	}
	if k, ok := impl.ReadKey(room); !ok || k.Start != 258 {
		t.Errorf("ReadKey = %v, %v", k, ok)
	}
	if impl.Crc32c(b[:3]) != impl.Crc32c([]byte{172, 2, 0}) {
		t.Error("Crc32c hangs on what lies behind the length")
	}
	tags := tagsOf("a", "x", "b", "y", "?", "?", "a", "x", "a", "x", "a", "x")
	k := impl.Key{Metric: "cpu", Tags: tags[:2], Start: 1}
	if form, ok := impl.KeyBytes(k); !ok || string(form) != "cpu\x00\x02a\x01x\x00\x02b\x01y\x00\x01\x00\x00\x00\x00\x00\x00\x00\x01" {
		t.Errorf("KeyBytes = %q, %v", form, ok)
	}
}

func badNames() []string {
	return []string{
		"", "abcdefghijklm", strings.Repeat("a", 5000), "a1", "1", "a b", " ", "a-b", "a_b", "a\x00", "\x00",
		"a\x01b", "a\x02", "@", "[", "`", "{", "/", ":", "é", "ä", "日本", "\xff", "a\xc3", "a\n", "=", ",",
	}
}

func badKeys() []impl.Key {
	keys := []impl.Key{
		{},
		{Metric: "cpu", Start: -1},
		{Metric: "cpu", Start: math.MinInt},
		{Metric: "cpu", Start: impl.MaxStart + 1},
		{Metric: "cpu", Start: math.MaxInt},
		{Metric: "cpu", Start: 1 << 32},
		{Metric: "cpu", Tags: make([]impl.Tag, 1)},
		{Metric: "cpu", Tags: make([]impl.Tag, 5)},
		keyOf("cpu", 0, "a", "x", "b", "x", "c", "x", "d", "x", "e", "x"),
		keyOf("cpu", 0, "a", "x", "a", "x"),
		keyOf("cpu", 0, "a", "x", "a", "y"),
		keyOf("cpu", 0, "b", "x", "a", "y"),
		keyOf("cpu", 0, "a", "x", "A", "y"),
		keyOf("cpu", 0, "ab", "x", "a", "y"),
		keyOf("cpu", 0, "a", "x", "b", "x", "c", "x", "c", "x"),
		keyOf("cpu", 0, "a", "x", "c", "x", "b", "x", "d", "x"),
	}
	for _, s := range badNames() {
		keys = append(keys,
			keyOf(s, 0),
			keyOf(s, 0, "a", "x"),
			keyOf("cpu", 0, s, "x"),
			keyOf("cpu", 0, "a", s),
			keyOf("cpu", 0, "a", "x", "b", s),
			keyOf("cpu", 0, "A", "x", "B", "x", "C", "x", "z", s),
		)
	}
	return keys
}

func TestPromise13GoodNames(t *testing.T) {
	for c := range 256 {
		letter := c >= 'a' && c <= 'z' || c >= 'A' && c <= 'Z'
		s := string([]byte{byte(c)})
		for _, k := range []impl.Key{keyOf(s, 0), keyOf("x"+s, 0), keyOf(s+"x", 0), keyOf("x", 0, s, "x"), keyOf("x", 0, "x", s)} {
			if got := impl.GoodKey(k); got != letter {
				t.Errorf("GoodKey(%+v) = %v, want %v", k, got, letter)
			}
		}
	}
	for many := range 20 {
		s := strings.Repeat("q", many)
		want := many >= 1 && many <= 12
		for _, k := range []impl.Key{keyOf(s, 0), keyOf("x", 0, s, "x"), keyOf("x", 0, "x", s)} {
			if got := impl.GoodKey(k); got != want {
				t.Errorf("GoodKey(%+v) = %v, want %v", k, got, want)
			}
		}
	}
}

func TestPromise13BadKeys(t *testing.T) {
	good := keyOf("zzz", 9, "z", "z")
	for _, k := range badKeys() {
		if impl.GoodKey(k) {
			t.Errorf("GoodKey(%+v) = true", k)
		}
		if b, ok := impl.KeyBytes(k); len(b) != 0 || ok {
			t.Errorf("KeyBytes(%+v) = %q, %v", k, b, ok)
		}
		for _, n := range []int{impl.CompareKeys(k, good), impl.CompareKeys(good, k), impl.CompareKeys(k, k), impl.CompareKeys(k, impl.Key{})} {
			if n != 0 {
				t.Errorf("CompareKeys with %+v = %d", k, n)
			}
		}
	}
}

func checkNoKey(t *testing.T, b []byte) {
	t.Helper()
	k, ok := impl.ReadKey(b)
	if k.Metric != "" || len(k.Tags) != 0 || k.Start != 0 || ok {
		t.Errorf("ReadKey(%q) = %v, %v, want the zero answer", b, k, ok)
	}
}

// plainForm writes a key down without asking whether it is good.
func plainForm(k impl.Key) []byte {
	var b bytes.Buffer
	b.WriteString(k.Metric + "\x00")
	for _, tag := range k.Tags {
		b.WriteString("\x02" + tag.Name + "\x01" + tag.Value + "\x00")
	}
	b.WriteByte(1)
	for shift := 56; shift >= 0; shift -= 8 {
		b.WriteByte(byte(uint64(k.Start) >> shift))
	}
	return b.Bytes()
}

func TestPromise13BytesOfBadKeys(t *testing.T) {
	for _, k := range badKeys() {
		checkNoKey(t, plainForm(k))
	}
	for _, s := range []string{
		"", "\x00", "\x01", "\x02", "cpu", "cpu\x00", "cpu\x00\x01", "cpu\x00\x02", "cpu\x00\x02a", "cpu\x00\x02a\x01", "cpu\x00\x02a\x01x",
		"cpu\x00\x02a\x01x\x00", "cpu\x00\x02a\x01x\x00\x01", "cpu\x00\x02a\x01x\x00\x02",
		"cpu\x01\x01\x00\x00\x00\x00\x00\x00\x00\x00",
		"cpu\x00\x00\x00\x00\x00\x00\x00\x00\x00\x00",
		"cpu\x00\x03\x00\x00\x00\x00\x00\x00\x00\x00",
		"cpu\x00\x02a\x00x\x00\x01\x00\x00\x00\x00\x00\x00\x00\x00",
		"cpu\x00\x02a\x01x\x01\x01\x00\x00\x00\x00\x00\x00\x00\x00",
		"cpu\x00\x01a\x01x\x00\x01\x00\x00\x00\x00\x00\x00\x00\x00",
		"cpu\x00\x01\x00\x00\x00\x00\x00\x00\x00",
		"cpu\x00\x01\x00\x00\x00\x00\x00\x00\x00\x00\x00",
		"cpu\x00\x01\xff\xff\xff\xff\xff\xff\xff\xff",
		"cpu\x00\x01\x80\x00\x00\x00\x00\x00\x00\x00",
		"cpu\x00\x01\x00\x00\x00\x00\x3b\x9a\xca\x01",
		strings.Repeat("a", 100000), strings.Repeat("\x00", 1000), strings.Repeat("\x02a\x01b\x00", 1000),
	} {
		checkNoKey(t, []byte(s))
	}
	checkNoKey(t, nil)
}

// checkKeyOrNone: ReadKey may answer true only where the key that it tells has just these bytes.
func checkKeyOrNone(t *testing.T, b []byte) bool {
	t.Helper()
	k, ok := impl.ReadKey(b)
	if !ok {
		checkNoKey(t, b)
		return false
	}
	if !impl.GoodKey(k) || !bytes.Equal(plainForm(k), b) {
		t.Errorf("ReadKey(%q) = %+v", b, k)
	}
	return true
}

func TestPromise13ChangedBytesOfKeys(t *testing.T) {
	for _, k := range []impl.Key{keyOf("cpu", 258), keyOf("cpu", 1000, "a", "x", "b", "y"), keyOf("m", 0, "a", "b", "c", "d", "e", "f", "g", "h")} {
		whole := plainForm(k)
		for i := range whole {
			checkNoKey(t, whole[:i])
			checkKeyOrNone(t, whole[i:])
			checkKeyOrNone(t, slices.Delete(slices.Clone(whole), i, i+1))
		}
		for c := range 256 {
			checkNoKey(t, append(slices.Clone(whole), byte(c)))
			for i := range whole {
				checkKeyOrNone(t, slices.Insert(slices.Clone(whole), i, byte(c)))
				changed := slices.Clone(whole)
				changed[i] = byte(c)
				ok := checkKeyOrNone(t, changed)
				letter := c >= 'a' && c <= 'z' || c >= 'A' && c <= 'Z'
				if i == 0 && ok != letter || i == len(whole)-1 && !ok {
					t.Errorf("ReadKey(%q): %v", changed, ok)
				}
			}
		}
	}
}

func TestPromise13ArgumentsStay(t *testing.T) {
	row := []byte{9, 172, 2, 0, 0, 0, 0, 0, 1, 2, 3, 4}
	kept := slices.Clone(row)
	impl.ReadVar(row[:3], 1)
	impl.ReadVar(row[:1], 5)
	impl.ReadFixed(row[:9], 1, 8)
	impl.ReadFixed(row, 11, 8)
	impl.Crc32c(row[:7])
	impl.ReadKey(row)
	if !bytes.Equal(row, kept) {
		t.Errorf("written into: %q", row)
	}
	form := slices.Grow(plainForm(keyOf("cpu", 258, "a", "x")), 30)
	form = form[:cap(form)]
	kept = slices.Clone(form)
	impl.ReadKey(form[:len(plainForm(keyOf("cpu", 258, "a", "x")))])
	impl.ReadKey(form)
	if !bytes.Equal(form, kept) {
		t.Errorf("written into: %q", form)
	}
	for _, k := range append(keysInOrder(), badKeys()...) {
		tags := append(slices.Clone(k.Tags), impl.Tag{Name: "behind", Value: "it"})
		before := slices.Clone(tags)
		arg := impl.Key{Metric: k.Metric, Tags: tags[:len(k.Tags)], Start: k.Start}
		impl.GoodKey(arg)
		impl.KeyBytes(arg)
		impl.CompareKeys(arg, keyOf("cpu", 1, "a", "b"))
		impl.CompareKeys(keyOf("cpu", 1, "a", "b"), arg)
		if !reflect.DeepEqual(tags, before) {
			t.Errorf("written into: %v", tags)
		}
	}
}

// fill writes into an answer up to its capacity, so that memory that is shared shows.
func fill(b []byte) {
	b = b[:cap(b)]
	for i := range b {
		b[i] = '!'
	}
}

func TestPromise13AnswersAreNew(t *testing.T) {
	for range 2 {
		a := impl.PutVar(math.MaxUint64)
		b := impl.PutVar(300)
		fill(a)
		if string(b) != "\xac\x02" || string(impl.PutVar(300)) != "\xac\x02" {
			t.Error("PutVar's answers share memory")
		}
		x, _ := impl.PutFixed(1, 8)
		y, _ := impl.PutFixed(2, 8)
		fill(x)
		if string(y) != "\x00\x00\x00\x00\x00\x00\x00\x02" {
			t.Error("PutFixed's answers share memory")
		}
		k := keyOf("cpu", 258, "a", "x")
		p, _ := impl.KeyBytes(k)
		q, _ := impl.KeyBytes(k)
		fill(p)
		if !bytes.Equal(q, plainForm(k)) || !sameKey(k, keyOf("cpu", 258, "a", "x")) {
			t.Error("KeyBytes' answer shares memory")
		}
	}
}

func TestPromise13ReadKeySharesNothing(t *testing.T) {
	k := keyOf("cpu", 258, "a", "x", "b", "y")
	form := plainForm(k)
	got, ok := impl.ReadKey(form)
	other, _ := impl.ReadKey(form)
	fill(form)
	if !ok || !sameKey(got, k) {
		t.Errorf("the key changed with its bytes: %v", got)
	}
	for i := range other.Tags {
		other.Tags[i] = impl.Tag{Name: "n", Value: "v"}
	}
	if !sameKey(got, k) {
		t.Error("two answers share their tags")
	}
}

func TestPromise13NothingBehindAnswers(t *testing.T) {
	v := impl.PutVar(5)
	x, _ := impl.PutFixed(5, 3)
	k, _ := impl.KeyBytes(keyOf("cpu", 5))
	for _, b := range [][]byte{v, x, k} {
		for _, c := range b[len(b):cap(b)] {
			if c != 0 {
				t.Errorf("bytes behind %q", b)
			}
		}
	}
}
