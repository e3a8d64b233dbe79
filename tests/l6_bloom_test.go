package tests

import (
	"bytes"
	"math"
	"math/rand"
	"slices"
	"strconv"
	"strings"
	"testing"

	"loop.example/g00150/impl"
)

// plainHash follows the chapter's words with numbers that do not wrap round.
func plainHash(s string, seed int) int {
	const all = 1 << 32
	sum := (2166136261 + seed*40503) % all
	for _, c := range []byte(s) {
		sum = (sum ^ int(c)) * 16777619 % all
	}
	return sum ^ sum/32768
}

func plainPlaces(key string, ways int, many int) []int {
	var out []int
	for k := range ways {
		out = append(out, (plainHash(key, 0)+k*plainHash(key, 1))%(1<<32)%(8*many))
	}
	return out
}

// filterWith has just these places set.
func filterWith(ways int, many int, places ...int) impl.Filter {
	f := impl.Filter{Ways: ways, Bits: make([]byte, many)}
	for _, p := range places {
		f.Bits[p/8] |= 1 << (p % 8)
	}
	return f
}

// filterWithout has all places set but these.
func filterWithout(ways int, many int, places ...int) impl.Filter {
	f := filterWith(ways, many, places...)
	for i := range f.Bits {
		f.Bits[i] = ^f.Bits[i]
	}
	return f
}

func sameFilter(a impl.Filter, b impl.Filter) bool {
	return a.Ways == b.Ways && bytes.Equal(a.Bits, b.Bits)
}

// namedKeys are so many unlike texts of unlike lengths.
func namedKeys(head string, many int) []string {
	var out []string
	for i := range many {
		out = append(out, strings.Repeat(head, i%4)+strconv.Itoa(i*i))
	}
	return out
}

// oddKeys are texts of which one may think that they are none.
func oddKeys() []string {
	return []string{"", "\x00", "\x00\x00", "\xff", "\x80\xff\x00", "é", "日本", " ", strings.Repeat("k", impl.MaxKeyBytes), strings.Repeat("\xfe", 3000)}
}

func keyLists() [][]string {
	a := namedKeys("cpu", 200)
	return [][]string{
		nil, {""}, {"a"}, {"\xff"}, {"a", "b"}, {"", "a", ""}, {"a", "a"}, {"a", "b", "a", "b", "b"},
		oddKeys(), a[:3], a[:7], a[:8], a[:9], a[:50], a[:64], a[:65], a[:99], a[:100], a[100:],
		slices.Repeat([]string{"a"}, 100), slices.Repeat([]string{""}, 10), slices.Concat(a[:50], a[:50]), slices.Concat(a[:90], oddKeys()),
	}
}

// waysBy are the Ways of each perKey, from 0 on, which has none.
var waysBy = []int{0, 1, 1, 2, 2, 3, 4, 4, 5, 6, 6, 7, 8, 8, 8, 8, 8, 8, 8, 8, 8}

func plainFilter(keys []string, perKey int) impl.Filter {
	many := 8
	for many < impl.MaxFilter && 8*many < len(keys)*perKey {
		many++
	}
	var places []int
	for _, key := range keys {
		places = append(places, plainPlaces(key, waysBy[perKey], many)...)
	}
	return filterWith(waysBy[perKey], many, places...)
}

func mustFilter(t *testing.T, keys []string, perKey int) impl.Filter {
	t.Helper()
	f, ok := impl.FilterOf(keys, perKey)
	if !ok {
		t.Fatalf("FilterOf(%q, %d) is false", keys, perKey)
	}
	return f
}

func TestPromise6HashByNumbers(t *testing.T) {
	for _, c := range []struct {
		text             string
		none, one, thous uint32
	}{
		{"", 2166202364, 2166110662, 2206704528},
		{"a", 3826114868, 3724895278, 150317407},
		{"ab", 1294311296, 3332504031, 4040169793},
		{"foobar", 3214771793, 1253559167, 227936684},
		{"\x00", 84694791, 1023743934, 2851369165},
		{"\xff", 2047571545, 1141075390, 1861491631},
		{"\x80\xff\x00", 2092682006, 688260943, 1786528225},
		{"cpu\x00\x01\x00\x00\x00\x00\x00\x00\x00<", 2286438256, 3060993833, 2550793388},
		{"é", 513660410, 179818147, 2991082299},
		{strings.Repeat("k", 140), 3309474679, 1197620245, 987478366},
		{strings.Repeat("z", 1000), 1287836161, 2147862949, 1751537296},
	} {
		for seed, want := range map[int]uint32{0: c.none, 1: c.one, 1000: c.thous} {
			if n, ok := impl.HashOf(c.text, seed); n != want || !ok {
				t.Errorf("HashOf(%q, %d) = %d, %v, want %d", c.text, seed, n, ok, want)
			}
		}
	}
}

func TestPromise6HashByWords(t *testing.T) {
	texts := append(oddKeys(), namedKeys("k", 20)...)
	for c := range 256 {
		texts = append(texts, string([]byte{byte(c)}), string([]byte{'a', byte(c), 'b'}))
	}
	for many := range 70 {
		texts = append(texts, string(bytesOf(many, 3*many)))
	}
	for _, text := range texts {
		for _, seed := range []int{0, 1, 2, 7, 255, 256, 999, 1000} {
			if n, ok := impl.HashOf(text, seed); int(n) != plainHash(text, seed) || !ok {
				t.Errorf("HashOf(%q, %d) = %d, %v, want %d", text, seed, n, ok, plainHash(text, seed))
			}
		}
	}
	for seed := range 1001 {
		if n, ok := impl.HashOf("seeded", seed); int(n) != plainHash("seeded", seed) || !ok {
			t.Errorf("HashOf of the seed %d = %d, %v", seed, n, ok)
		}
	}
}

func TestPromise6PlacesByNumbers(t *testing.T) {
	for _, c := range []struct {
		key    string
		times  int
		perKey int
		ways   int
		many   int
		places []int
	}{
		{"a", 1, 10, 6, 8, []int{52, 34, 16, 62, 44, 26}},
		{"b", 1, 10, 6, 8, []int{61, 48, 35, 22, 9, 60}},
		{"", 1, 10, 6, 8, []int{60, 2, 8, 14, 20, 26}},
		{"\xff", 1, 10, 6, 8, []int{25, 23, 21, 19, 17, 15}},
		{"", 1, 1, 1, 8, []int{60}},
		{"a", 66, 1, 1, 9, []int{20}},
		{"a", 10, 20, 8, 25, []int{68, 50, 32, 14, 196, 178, 160, 38}},
		{"b", 10, 20, 8, 25, []int{29, 128, 27, 126, 25, 124, 23, 122}},
		{"a", 100, 20, 8, 200, []int{1268, 1250, 1232, 1214, 1196, 1178, 1160, 438}},
		{"\xff", 100, 20, 8, 200, []int{345, 535, 1429, 19, 209, 399, 1293, 1483}},
	} {
		f := mustFilter(t, slices.Repeat([]string{c.key}, c.times), c.perKey)
		if want := filterWith(c.ways, c.many, c.places...); !sameFilter(f, want) {
			t.Errorf("FilterOf %d times %q, %d = %v, want %v", c.times, c.key, c.perKey, f, want)
		}
		if got := plainPlaces(c.key, c.ways, c.many); !slices.Equal(got, c.places) {
			t.Errorf("the places of %q are %v, want %v", c.key, got, c.places)
		}
	}
}

func TestPromise6FiltersByBytes(t *testing.T) {
	for _, c := range []struct {
		keys   []string
		perKey int
		want   string
	}{
		{nil, 10, "\x06\x00\x00\x00\x00\x00\x00\x00\x00"},
		{[]string{"a", "b"}, 10, "\x06\x00\x02\x41\x04\x0c\x10\x11\x70"},
		{[]string{"b", "a", "b"}, 10, "\x06\x00\x02\x41\x04\x0c\x10\x11\x70"},
		{[]string{""}, 1, "\x01\x00\x00\x00\x00\x00\x00\x00\x10"},
		{[]string{"cpu", "mem", "disk", "net", "\xff\x80"}, 20, "\x08\x05\x02\xa9\x82\x91\x09\x95\xd1\xd8\x90\xd0\x26\xa0"},
	} {
		b, ok := impl.FilterBytes(mustFilter(t, c.keys, c.perKey))
		if string(b) != c.want || !ok {
			t.Errorf("the bytes of %q, %d are %q, %v, want %q", c.keys, c.perKey, b, ok, c.want)
		}
	}
}

func TestPromise6FiltersByWords(t *testing.T) {
	for _, keys := range keyLists() {
		for perKey := 1; perKey <= 20; perKey++ {
			f := mustFilter(t, keys, perKey)
			if want := plainFilter(keys, perKey); !sameFilter(f, want) {
				t.Errorf("FilterOf(%q, %d) = %v, want %v", keys, perKey, f, want)
			}
			if !impl.GoodFilter(f) {
				t.Errorf("FilterOf(%q, %d) = %v, which is not good", keys, perKey, f)
			}
		}
	}
}

func TestPromise6NothingIsHidden(t *testing.T) {
	for _, keys := range keyLists() {
		for perKey := 1; perKey <= 20; perKey++ {
			f := mustFilter(t, keys, perKey)
			for _, key := range keys {
				if !impl.MayHave(f, key) {
					t.Errorf("the filter of %q, %d hides %q", keys, perKey, key)
				}
			}
		}
	}
}

func TestPromise6NothingIsHiddenByDraws(t *testing.T) {
	r := rand.New(rand.NewSource(64))
	for range 300 {
		var keys []string
		for range r.Intn(101) {
			keys = append(keys, string(bytesOf(r.Intn(40), r.Intn(256))))
		}
		perKey := 1 + r.Intn(20)
		f := mustFilter(t, keys, perKey)
		b, _ := impl.FilterBytes(f)
		back, ok := impl.ReadFilter(b)
		for _, key := range keys {
			if !ok || !impl.MayHave(f, key) || !impl.MayHave(back, key) {
				t.Fatalf("the filter of %q, %d hides %q", keys, perKey, key)
			}
		}
		slices.Reverse(keys)
		if !sameFilter(mustFilter(t, keys, perKey), f) {
			t.Fatalf("the filter of %q, %d hangs on their order", keys, perKey)
		}
	}
}

func TestPromise6WaysAtEachPerKey(t *testing.T) {
	for perKey := 1; perKey <= 20; perKey++ {
		for _, many := range []int{0, 1, 3, 50, 100} {
			if f := mustFilter(t, namedKeys("k", many), perKey); f.Ways != waysBy[perKey] {
				t.Errorf("%d keys, %d: %d ways, want %d", many, perKey, f.Ways, waysBy[perKey])
			}
		}
	}
}

func TestPromise6BytesAtFewAndManyKeys(t *testing.T) {
	for _, c := range []struct{ many, perKey, want int }{
		{0, 1, 8}, {0, 10, 8}, {0, 20, 8}, {1, 1, 8}, {1, 20, 8}, {3, 20, 8}, {4, 16, 8}, {4, 17, 9}, {4, 20, 10},
		{6, 10, 8}, {7, 10, 9}, {8, 8, 8}, {8, 9, 9}, {9, 7, 8}, {13, 5, 9}, {63, 1, 8}, {64, 1, 8}, {65, 1, 9},
		{71, 1, 9}, {72, 1, 9}, {73, 1, 10}, {99, 1, 13}, {100, 1, 13}, {100, 2, 25}, {100, 10, 125}, {100, 15, 188},
		{79, 20, 198}, {80, 20, 200}, {81, 20, 200}, {99, 16, 198}, {100, 16, 200}, {94, 17, 200}, {95, 17, 200},
		{100, 17, 200}, {90, 20, 200}, {100, 19, 200}, {100, 20, 200},
	} {
		if f := mustFilter(t, namedKeys("k", c.many), c.perKey); len(f.Bits) != c.want {
			t.Errorf("%d keys, %d: %d bytes, want %d", c.many, c.perKey, len(f.Bits), c.want)
		}
	}
	if f := mustFilter(t, slices.Repeat([]string{"a"}, 50), 10); len(f.Bits) != 63 {
		t.Errorf("one key 50 times: %d bytes, want 63", len(f.Bits))
	}
}

func checkMay(t *testing.T, what string, f impl.Filter, key string, want bool) {
	t.Helper()
	if got := impl.MayHave(f, key); got != want {
		t.Errorf("%s: MayHave(%v, %q) = %v, want %v", what, f, key, got, want)
	}
}

func TestPromise6MayHaveOfEachFilter(t *testing.T) {
	keys := append(oddKeys(), "a", "b", "foobar")
	for many := 1; many <= impl.MaxFilter; many++ {
		for ways := 1; ways <= 8; ways++ {
			key := keys[(many+ways)%len(keys)]
			places := plainPlaces(key, ways, many)
			checkMay(t, "just its places", filterWith(ways, many, places...), key, true)
			checkMay(t, "all places", filterWithout(ways, many), key, true)
			checkMay(t, "no places", filterWith(ways, many), key, false)
			checkMay(t, "all but its places", filterWithout(ways, many, places...), key, false)
			for _, p := range places {
				checkMay(t, "all places but one", filterWithout(ways, many, p), key, false)
				others := slices.DeleteFunc(slices.Clone(places), func(n int) bool { return n == p })
				checkMay(t, "its places but one", filterWith(ways, many, others...), key, false)
			}
			for _, p := range []int{0, 7, 8*many - 8, 8*many - 1} {
				checkMay(t, "one place is not set", filterWithout(ways, many, p), key, !slices.Contains(places, p))
			}
		}
	}
}

func TestPromise6KeysThatWereNotPutIn(t *testing.T) {
	for _, keys := range [][]string{nil, {"a"}, {"a", "b"}, namedKeys("cpu", 20), namedKeys("cpu", 100)} {
		for perKey := 1; perKey <= 20; perKey++ {
			f := mustFilter(t, keys, perKey)
			hidden := 0
			for _, key := range namedKeys("mem", 200) {
				all := true
				for _, p := range plainPlaces(key, f.Ways, len(f.Bits)) {
					all = all && f.Bits[p/8]>>(p%8)&1 == 1
				}
				checkMay(t, "a key that was not put in", f, key, all)
				if !all {
					hidden++
				}
			}
			if hidden == 0 || perKey >= 8 && hidden < 170 {
				t.Errorf("the filter of %d keys, %d tells of %d keys alone that they are not there", len(keys), perKey, hidden)
			}
		}
	}
}

func TestPromise6FiltersComeBack(t *testing.T) {
	for ways := 1; ways <= 8; ways++ {
		for many := 1; many <= impl.MaxFilter; many++ {
			f := impl.Filter{Ways: ways, Bits: bytesOf(many, 5*many+ways)}
			want := append([]byte{byte(ways)}, f.Bits...)
			b, ok := impl.FilterBytes(f)
			if !ok || !bytes.Equal(b, want) {
				t.Fatalf("FilterBytes(%v) = %q, %v, want %q", f, b, ok, want)
			}
			if back, ok := impl.ReadFilter(b); !ok || !sameFilter(back, f) {
				t.Fatalf("ReadFilter(%q) = %v, %v, want %v", b, back, ok, f)
			}
			if !impl.GoodFilter(f) {
				t.Fatalf("GoodFilter(%v) is false", f)
			}
		}
	}
	for _, fillsUp := range []byte{0, 255} {
		f := impl.Filter{Ways: 8, Bits: bytes.Repeat([]byte{fillsUp}, impl.MaxFilter)}
		b, ok := impl.FilterBytes(f)
		back, too := impl.ReadFilter(b)
		if !ok || !too || !sameFilter(back, f) {
			t.Errorf("%v came back as %v", f, back)
		}
	}
}

func checkKeep(t *testing.T, l []int, most int, block int, want []int, wantGone int) {
	t.Helper()
	got, gone, ok := impl.KeepBlock(l, most, block)
	if !ok || gone != wantGone || !slices.Equal(got, want) {
		t.Errorf("KeepBlock(%v, %d, %d) = %v, %d, %v, want %v, %d", l, most, block, got, gone, ok, want, wantGone)
	}
}

func TestPromise6KeepBlock(t *testing.T) {
	for _, c := range []struct {
		l     []int
		most  int
		block int
		want  []int
		gone  int
	}{
		{nil, 1, 5, []int{5}, -1},
		{[]int{}, 50, 5, []int{5}, -1},
		{[]int{5}, 1, 5, []int{5}, -1},
		{[]int{5}, 1, 6, []int{6}, 5},
		{[]int{5}, 2, 6, []int{5, 6}, -1},
		{[]int{1, 2, 3}, 3, 1, []int{2, 3, 1}, -1},
		{[]int{1, 2, 3}, 3, 2, []int{1, 3, 2}, -1},
		{[]int{1, 2, 3}, 3, 3, []int{1, 2, 3}, -1},
		{[]int{1, 2, 3}, 4, 1, []int{2, 3, 1}, -1},
		{[]int{1, 2, 3}, 50, 2, []int{1, 3, 2}, -1},
		{[]int{1, 2, 3}, 4, 4, []int{1, 2, 3, 4}, -1},
		{[]int{1, 2, 3}, 3, 4, []int{2, 3, 4}, 1},
		{[]int{9, 7, 8}, 3, 1, []int{7, 8, 1}, 9},
		{[]int{0}, 1, 1, []int{1}, 0},
		{[]int{-1}, 1, 0, []int{0}, -1},
		{[]int{-1, 0}, 2, -1, []int{0, -1}, -1},
		{[]int{math.MinInt, math.MaxInt}, 2, 0, []int{math.MaxInt, 0}, math.MinInt},
		{[]int{math.MaxInt, math.MinInt}, 2, math.MaxInt, []int{math.MinInt, math.MaxInt}, -1},
		{[]int{math.MaxInt, math.MinInt}, 3, math.MaxInt - 1, []int{math.MaxInt, math.MinInt, math.MaxInt - 1}, -1},
	} {
		checkKeep(t, c.l, c.most, c.block, c.want, c.gone)
	}
}

func TestPromise6KeepBlockAtEveryPlace(t *testing.T) {
	for many := 0; many <= 50; many++ {
		var l []int
		for i := range many {
			l = append(l, (i*37+11)%101)
		}
		for place, block := range l {
			want := append(slices.Delete(slices.Clone(l), place, place+1), block)
			for _, most := range []int{many, min(many+1, 50), 50} {
				checkKeep(t, l, most, block, want, -1)
			}
		}
		for _, block := range []int{-1, 101, math.MaxInt, math.MinInt} {
			more := append(slices.Clone(l), block)
			if many < 50 {
				checkKeep(t, l, many+1, block, more, -1)
				checkKeep(t, l, 50, block, more, -1)
			}
			if many > 0 {
				checkKeep(t, l, many, block, more[1:], l[0])
			}
		}
	}
}

// lastUsed are the most blocks that were asked for last, the oldest first.
func lastUsed(asked []int, most int) []int {
	var out []int
	for _, block := range slices.Backward(asked) {
		if len(out) < most && !slices.Contains(out, block) {
			out = slices.Insert(out, 0, block)
		}
	}
	return out
}

func TestPromise6KeptAreTheLastUsed(t *testing.T) {
	r := rand.New(rand.NewSource(65))
	for _, most := range []int{1, 2, 3, 7, 49, 50} {
		var kept, asked []int
		for range 300 {
			asked = append(asked, r.Intn(most+4))
			want, gone := lastUsed(asked, most), -1
			if len(kept) == most && !slices.Contains(want, kept[0]) {
				gone = kept[0]
			}
			checkKeep(t, kept, most, asked[len(asked)-1], want, gone)
			kept, _, _ = impl.KeepBlock(kept, most, asked[len(asked)-1])
		}
	}
}
