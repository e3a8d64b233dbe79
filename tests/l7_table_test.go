package tests

import (
	"bytes"
	"encoding/binary"
	"hash/crc32"
	"math/rand"
	"slices"
	"strings"
	"testing"

	"loop.example/g00150/impl"
)

// A rowForm is an entry as it stands in a block, a field a part.
type rowForm struct {
	shared []byte
	rest   []byte
	seq    []byte
	kind   byte
	many   []byte
	key    []byte
	agg    []byte
}

func varOf(n int) []byte {
	return binary.AppendUvarint(nil, uint64(n))
}

// rowOf writes any entry down, without asking whether it is good.
func rowOf(ahead string, e impl.Entry) rowForm {
	shared := 0
	for shared < len(e.Key) && strings.HasPrefix(ahead, e.Key[:shared+1]) {
		shared++
	}
	var agg []byte
	if e.Kind != impl.KindDrop || !sameAgg(e.Agg, impl.Agg{}) {
		agg = plainAggBytes(e.Agg)
	}
	return rowForm{varOf(shared), varOf(len(e.Key) - shared), varOf(e.Seq), byte(e.Kind), varOf(len(agg)), []byte(e.Key[shared:]), agg}
}

func (r rowForm) bytes() []byte {
	return slices.Concat(r.shared, r.rest, r.seq, []byte{r.kind}, r.many, r.key, r.agg)
}

// A tableForm is a table in parts; a test may change one ahead of asking for the bytes.
type tableForm struct {
	blocks   [][]rowForm
	lasts    []string
	filter   []byte
	index    [][]byte
	filterAt int
	indexAt  int
	entries  int
}

func (f tableForm) blockBytes(i int) []byte {
	var out []byte
	for _, row := range f.blocks[i] {
		out = append(out, row.bytes()...)
	}
	return out
}

func indexRow(last string, at int, many int) []byte {
	return slices.Concat(varOf(len(last)), []byte(last), varOf(at), varOf(many))
}

// laidOut tells the places anew, and the index by them.
func (f tableForm) laidOut() tableForm {
	f.index, f.filterAt = nil, 0
	for i := range f.blocks {
		many := len(f.blockBytes(i))
		f.index = append(f.index, indexRow(f.lasts[i], f.filterAt, many))
		f.filterAt += many
	}
	f.indexAt = f.filterAt + len(f.filter)
	return f
}

func (f tableForm) bytes() []byte {
	var body []byte
	for i := range f.blocks {
		body = append(body, f.blockBytes(i)...)
	}
	body = append(body, f.filter...)
	return sealed(append(body, slices.Concat(f.index...)...), f.filterAt, f.indexAt, f.entries)
}

// sealed puts an end behind any bytes: its mark and its check are right.
func sealed(body []byte, filterAt int, indexAt int, entries int) []byte {
	out := slices.Clone(body)
	for _, n := range []int{filterAt, indexAt, entries} {
		out = binary.BigEndian.AppendUint32(out, uint32(n))
	}
	return resealed(append(out, make([]byte, 8)...))
}

// resealed gives bytes that were changed the check and the mark of a table.
func resealed(b []byte) []byte {
	out := slices.Clone(b[:len(b)-8])
	sum := crc32.Checksum(out, crc32.MakeTable(crc32.Castagnoli))
	out = binary.BigEndian.AppendUint32(out, sum)
	return append(out, 84, 66, 76, 49)
}

func keysOnce(l []impl.Entry) []string {
	var keys []string
	for _, e := range l {
		if !slices.Contains(keys, e.Key) {
			keys = append(keys, e.Key)
		}
	}
	return keys
}

func plainFilterBytes(keys []string, perKey int) []byte {
	f := plainFilter(keys, perKey)
	return append([]byte{byte(f.Ways)}, f.Bits...)
}

// formOf is the table of blocks of entries, of any length and any kind.
func formOf(perKey int, blocks ...[]impl.Entry) tableForm {
	all := slices.Concat(blocks...)
	f := tableForm{filter: plainFilterBytes(keysOnce(all), perKey), entries: len(all)}
	for _, block := range blocks {
		var rows []rowForm
		ahead := ""
		for _, e := range block {
			rows = append(rows, rowOf(ahead, e))
			ahead = e.Key
		}
		f.blocks = append(f.blocks, rows)
		f.lasts = append(f.lasts, ahead)
	}
	return f.laidOut()
}

func inFours(l []impl.Entry) [][]impl.Entry {
	return slices.Collect(slices.Chunk(l, 4))
}

func plainTable(l []impl.Entry, perKey int) []byte {
	return formOf(perKey, inFours(l)...).bytes()
}

// plainFind tells the entries of a key and how many blocks are looked at.
func plainFind(l []impl.Entry, perKey int, key string) ([]impl.Entry, int) {
	f := plainFilter(keysOnce(l), perKey)
	for _, p := range plainPlaces(key, f.Ways, len(f.Bits)) {
		if f.Bits[p/8]>>(p%8)&1 == 0 {
			return nil, 0
		}
	}
	var lasts []string
	for _, block := range inFours(l) {
		lasts = append(lasts, block[len(block)-1].Key)
	}
	first := slices.IndexFunc(lasts, func(last string) bool { return last >= key })
	if first < 0 {
		return nil, 0
	}
	behind := first + 1
	for behind < len(lasts) && lasts[behind-1] == key {
		behind++
	}
	var of []impl.Entry
	for _, e := range l {
		if e.Key == key {
			of = append(of, e)
		}
	}
	return of, behind - first
}

func mustTable(t *testing.T, l []impl.Entry, perKey int) []byte {
	t.Helper()
	b, ok := impl.BuildTable(l, perKey)
	if !ok {
		t.Fatalf("BuildTable of %d entries, %d is false: %v", len(l), perKey, l)
	}
	return b
}

func checkTable(t *testing.T, l []impl.Entry, perKey int) []byte {
	t.Helper()
	b := mustTable(t, l, perKey)
	if want := plainTable(l, perKey); !bytes.Equal(b, want) {
		t.Fatalf("BuildTable(%v, %d) = %q, want %q", l, perKey, b, want)
	}
	if back, code := impl.ReadTable(b); code != impl.TableOk || !sameEntries(back, l) {
		t.Fatalf("%v come back as %v, %d", l, back, code)
	}
	if many, code := impl.BlocksOf(b); code != impl.TableOk || many != len(inFours(l)) {
		t.Fatalf("BlocksOf %d entries = %d, %d", len(l), many, code)
	}
	least, most, code := impl.BoundsOf(b)
	if code != impl.TableOk || least != l[0].Key || most != l[len(l)-1].Key {
		t.Fatalf("BoundsOf(%v) = %q, %q, %d", l, least, most, code)
	}
	return b
}

func checkFind(t *testing.T, b []byte, key string, want []impl.Entry, wantLooked int) {
	t.Helper()
	got, looked, code := impl.FindInTable(b, key)
	if code != impl.TableOk || looked != wantLooked || !sameEntries(got, want) {
		t.Fatalf("FindInTable(%q, %q) = %v, %d, %d, want %v, %d", b, key, got, looked, code, want, wantLooked)
	}
}

// dropsOf are drops of these keys, in their order, each Seq one less.
func dropsOf(keys ...string) []impl.Entry {
	var out []impl.Entry
	for i, key := range keys {
		out = append(out, dropOf(key, len(keys)-i))
	}
	return out
}

// kindsOf are entries of these keys, in their order, of each kind in turn.
func kindsOf(keys ...string) []impl.Entry {
	var out []impl.Entry
	for i, key := range keys {
		seq := len(keys) - i
		out = append(out, []impl.Entry{putOf(key, seq, 3*i), dropOf(key, seq), joinOf(key, seq, -i)}[i%3])
	}
	return out
}

// apart are so many keys of two bytes, rising, with others between them.
func apart(many int) []string {
	var keys []string
	for i := range many {
		keys = append(keys, string([]byte{byte(20 + 2*i), byte(255 - i)}))
	}
	return keys
}

func wholeAggs() []impl.Entry {
	var out []impl.Entry
	for i, a := range goodAggs() {
		out = append(out, impl.Entry{Key: "k", Seq: 900 - i, Kind: impl.KindPut, Agg: a})
	}
	for i, a := range goodAggs() {
		out = append(out, impl.Entry{Key: "l", Seq: 500 - i, Kind: impl.KindJoin, Agg: a})
	}
	return out
}

func manyTimes(key string, many int) []string {
	return slices.Repeat([]string{key}, many)
}

// tableLists are entries of which tables are made.
func tableLists() [][]impl.Entry {
	long := strings.Repeat("k", impl.MaxKeyBytes-1)
	out := [][]impl.Entry{
		{putOf("k", 1, 5)}, {joinOf("k", topSeq, -5)}, {dropOf("k", 128)},
		{dropOf("\x00", 1)}, {putOf("\xff", 127, 0)}, {joinOf(strings.Repeat("\x00", 140), 300, 1)}, {dropOf(strings.Repeat("\xff", 140), 16384)},
		kindsOf("a", "b", "c", "d"), kindsOf("a", "b", "c", "d", "e"), kindsOf(apart(8)...), kindsOf(apart(9)...), kindsOf(apart(30)...),
		kindsOf("cpu-a", "cpu-b", "cpx", "cq", "d", "disk", "dist", "dust"),
		kindsOf("k", "ka", "kaa", "kaaa", "kaaaa", "kaaab", "kab", "kb"),
		kindsOf("\x00", "\x00\x00", "\x00\x00\x01", "\x7f", "\x80", "\x80\x00", "\x80\xff", "\xff", "\xff\xff\xff"),
		kindsOf(long, long+"\x00", long+"k", long+"\xff"), kindsOf("k", long[:100], long, long+"l", "l", "l"+long),
		kindsOf(manyTimes("k", 2)...), kindsOf(manyTimes("k", 4)...), kindsOf(manyTimes("k", 5)...), kindsOf(manyTimes("k", 13)...),
		kindsOf(slices.Concat(manyTimes("k", 4), manyTimes("l", 4), []string{"m"})...),
		kindsOf(slices.Concat([]string{"a", "b"}, manyTimes("k", 9), []string{"z"})...),
		kindsOf(slices.Concat([]string{"a", "b", "c"}, manyTimes("k", 5), []string{"ka", "z"})...),
		{putOf("a", topSeq, 1), putOf("b", topSeq-1, 1), putOf("c", 1, 1), dropOf("d", 127), dropOf("e", 128), joinOf("f", 16383, 0), joinOf("g", 16384, 0)},
		wholeAggs(),
		kindsOf(apart(99)...), kindsOf(apart(100)...), dropsOf(apart(100)...), kindsOf(manyTimes("k", 100)...),
	}
	r := rand.New(rand.NewSource(71))
	for _, many := range []int{3, 7, 12, 20, 40} {
		out = append(out, inOrder(drawEntries(r, many, someKeys())))
	}
	return out
}

func TestPromise7ATableOfOneEntryByBytes(t *testing.T) {
	b := mustTable(t, []impl.Entry{dropOf("a", 1)}, 10)
	want := "\x00\x01\x01\x02\x00a" +
		"\x06\x00\x00\x01\x04\x04\x10\x10\x40" +
		"\x01a\x00\x06" +
		"\x00\x00\x00\x06\x00\x00\x00\x0f\x00\x00\x00\x01" +
		"\x13\x9e\x4a\xf9" +
		"TBL1"
	if string(b) != want {
		t.Errorf("the table is %q, want %q", b, want)
	}
}

func TestPromise7ATableOfTwoBlocksByBytes(t *testing.T) {
	l := []impl.Entry{putOf("a", 300, 12), dropOf("a", 7), joinOf("ab", 1, -5), dropOf("b", 5), dropOf("ba", topSeq)}
	b := mustTable(t, l, 1)
	want := "\x00\x01\xac\x02\x01\x0da\x00\x02\x18\x18\x18\x00\x00\x00\x02\x00\x00\x00\x00" +
		"\x01\x00\x07\x02\x00" +
		"\x01\x01\x01\x03\x0db\x00\x02\x09\x09\x09\x02\x00\x00\x00\x00\x00\x00\x00" +
		"\x00\x01\x05\x02\x00b" +
		"\x00\x02\x80\x94\xeb\xdc\x03\x02\x00ba" +
		"\x01\x01\x00\x00\x08\x00\x00\x10\x20" +
		"\x01b\x00\x32\x02ba\x32\x0b" +
		"\x00\x00\x00\x3d\x00\x00\x00\x46\x00\x00\x00\x05" +
		"\xd3\x0e\xd0\x4c" +
		"TBL1"
	if string(b) != want {
		t.Errorf("the table is %q, want %q", b, want)
	}
}

func TestPromise7EntriesComeBack(t *testing.T) {
	for _, l := range tableLists() {
		for perKey := 1; perKey <= 20; perKey++ {
			checkTable(t, l, perKey)
		}
	}
}

func TestPromise7EachNumberOfEntriesComesBack(t *testing.T) {
	for many := 1; many <= impl.MaxEntries; many++ {
		checkTable(t, kindsOf(apart(many)...), 1+many%20)
		checkTable(t, kindsOf(manyTimes("k", many)...), 1+many%20)
		checkTable(t, dropsOf(apart(many)...), 1+many%20)
	}
}

func TestPromise7DrawnEntriesComeBack(t *testing.T) {
	r := rand.New(rand.NewSource(72))
	for range 150 {
		var keys []string
		for range 1 + r.Intn(12) {
			keys = append(keys, string(bytes.Repeat([]byte{byte(r.Intn(256))}, 1+r.Intn(3)))+string(bytesOf(r.Intn(12), r.Intn(256))))
		}
		l := inOrder(drawEntries(r, 1+r.Intn(60), keys))
		perKey := 1 + r.Intn(20)
		b := checkTable(t, l, perKey)
		for _, key := range around(keys) {
			want, looked := plainFind(l, perKey, key)
			checkFind(t, b, key, want, looked)
		}
	}
}

func TestPromise7EachKeyIsFound(t *testing.T) {
	for _, l := range tableLists() {
		for perKey := 1; perKey <= 20; perKey++ {
			b := mustTable(t, l, perKey)
			for _, key := range keysOnce(l) {
				want, looked := plainFind(l, perKey, key)
				if len(want) == 0 || looked < 1 || looked > len(inFours(l)) {
					t.Fatalf("%q is not found in %v", key, l)
				}
				checkFind(t, b, key, want, looked)
			}
		}
	}
}

func TestPromise7OtherKeysAreNotFound(t *testing.T) {
	looks := map[int]int{}
	for _, l := range tableLists() {
		for _, perKey := range []int{1, 3, 10, 20} {
			b := mustTable(t, l, perKey)
			for _, key := range slices.Concat(around(keysOnce(l)[:min(len(keysOnce(l)), 9)]), oddKeys(), namedKeys("q", 10)) {
				want, looked := plainFind(l, perKey, key)
				checkFind(t, b, key, want, looked)
				if len(want) == 0 {
					looks[looked]++
				}
			}
		}
	}
	if looks[0] < 100 || looks[1] < 100 {
		t.Errorf("too few keys to tell: %v", looks)
	}
}

func TestPromise7BlocksLookedAtByNumbers(t *testing.T) {
	of := func(words ...string) []impl.Entry { return kindsOf(words...) }
	nine := of("a", "b", "c", "d", "e", "f", "g", "h", "i")
	middle := of(slices.Concat([]string{"a"}, manyTimes("k", 9), []string{"z"})...)
	for _, c := range []struct {
		what   string
		l      []impl.Entry
		key    string
		many   int
		looked int
	}{
		{"the first of all", nine, "a", 1, 1},
		{"within the first block", nine, "c", 1, 1},
		{"the last of the first block", nine, "d", 1, 2},
		{"the first of the second block", nine, "e", 1, 1},
		{"the last of the second block", nine, "h", 1, 2},
		{"the last of all", nine, "i", 1, 1},
		{"one alone", of("k"), "k", 1, 1},
		{"one block of one key", of(manyTimes("k", 4)...), "k", 4, 1},
		{"two blocks of one key", of(manyTimes("k", 5)...), "k", 5, 2},
		{"25 blocks of one key", of(manyTimes("k", 100)...), "k", 100, 25},
		{"a key over three blocks", middle, "k", 9, 3},
		{"ahead of a key over three blocks", middle, "a", 1, 1},
		{"behind a key over three blocks", middle, "z", 1, 1},
		{"a key that fills its block", of(slices.Concat(manyTimes("k", 4), []string{"z"})...), "k", 4, 2},
		{"behind a key that fills its block", of(slices.Concat(manyTimes("k", 4), []string{"z"})...), "z", 1, 1},
		{"a key that ends the first block and begins the second", of("a", "b", "c", "k", "k", "l"), "k", 2, 2},
	} {
		for perKey := 1; perKey <= 20; perKey++ {
			var want []impl.Entry
			for _, e := range c.l {
				if e.Key == c.key {
					want = append(want, e)
				}
			}
			if len(want) != c.many {
				t.Fatalf("%s: %d entries, want %d", c.what, len(want), c.many)
			}
			checkFind(t, mustTable(t, c.l, perKey), c.key, want, c.looked)
		}
	}
}

// letBy is a text from head on that the filter of a table lets by though it is not there.
func letBy(t *testing.T, l []impl.Entry, perKey int, head string) string {
	t.Helper()
	f := plainFilter(keysOnce(l), perKey)
	for _, tail := range namedKeys("x", 1000) {
		key := head + tail
		missing := func(p int) bool { return f.Bits[p/8]>>(p%8)&1 == 0 }
		if !slices.ContainsFunc(plainPlaces(key, f.Ways, len(f.Bits)), missing) {
			return key
		}
	}
	t.Fatalf("no text from %q on is let by", head)
	return ""
}

func TestPromise7KeysThatTheFilterLetsBy(t *testing.T) {
	l := kindsOf("c", "e", "g", "i", "k", "m", "o", "q", "s", "u", "u", "u", "u", "w")
	for _, perKey := range []int{1, 2, 3, 5} {
		b := mustTable(t, l, perKey)
		for _, c := range []struct {
			head   string
			looked int
		}{
			{"b", 1}, {"c", 1}, {"d", 1}, {"h", 1}, {"i", 1}, {"j", 1}, {"p", 1}, {"r", 1}, {"t", 1}, {"u", 1}, {"v", 1}, {"w", 0}, {"x", 0}, {"\xff", 0}, {"\x00", 1},
		} {
			checkFind(t, b, letBy(t, l, perKey, c.head), nil, c.looked)
		}
	}
}

func TestPromise7KeysThatTheFilterHides(t *testing.T) {
	l := kindsOf("c", "e", "g", "i", "k", "m", "o", "q", "s")
	for perKey := 1; perKey <= 20; perKey++ {
		b := mustTable(t, l, perKey)
		hidden := 0
		for _, key := range slices.Concat(oddKeys(), namedKeys("d", 30), namedKeys("l", 30), namedKeys("A", 30)) {
			if !impl.MayHave(plainFilter(keysOnce(l), perKey), key) {
				checkFind(t, b, key, nil, 0)
				hidden++
			}
		}
		if hidden < 50 {
			t.Errorf("%d: %d keys alone are hidden", perKey, hidden)
		}
	}
}

// longEntries make a table of just so many bytes, from 7900 to 8100.
func longEntries(t *testing.T, size int) []impl.Entry {
	t.Helper()
	var l []impl.Entry
	for i := range 44 {
		l = append(l, dropOf(string([]byte{byte(3 * i)})+strings.Repeat("k", impl.MaxKeyBytes-1), 44-i))
	}
	for i := 0; len(plainTable(l, 10)) > size; i = (i + 1) % 44 {
		// The last of a block stands in the index too.
		if i%4 != 3 {
			l[i].Key = l[i].Key[:len(l[i].Key)-1]
		}
	}
	if len(plainTable(l, 10)) != size {
		t.Fatalf("the table has %d bytes, want %d", len(plainTable(l, 10)), size)
	}
	return l
}

func TestPromise7TablesUpToMaxTable(t *testing.T) {
	for size := impl.MaxTable - 9; size <= impl.MaxTable; size++ {
		l := longEntries(t, size)
		b := checkTable(t, l, 10)
		if len(b) != size {
			t.Fatalf("a table of %d bytes, want %d", len(b), size)
		}
		for _, e := range []impl.Entry{l[0], l[3], l[20], l[43]} {
			want, looked := plainFind(l, 10, e.Key)
			checkFind(t, b, e.Key, want, looked)
		}
	}
	for size := impl.MaxTable + 1; size <= impl.MaxTable+9; size++ {
		l := longEntries(t, size)
		if b, ok := impl.BuildTable(l, 10); ok || len(b) != 0 {
			t.Errorf("a table of %d bytes is made of %d: %v", len(b), size, ok)
		}
		checkCode(t, "more than MaxTable", plainTable(l, 10), impl.TableShort)
	}
}

func TestPromise7EachChangedBitIsTold(t *testing.T) {
	for _, l := range tableLists() {
		b := mustTable(t, l, 10)
		if len(b) > 700 {
			continue
		}
		for place := range 8 * len(b) {
			changed := slices.Clone(b)
			changed[place/8] ^= 1 << (place % 8)
			want := impl.TableSum
			if place/8 >= len(b)-4 {
				want = impl.TableMark
			}
			checkCode(t, "a changed bit", changed, want)
		}
	}
}

func TestPromise7SameTableEachTime(t *testing.T) {
	for _, l := range tableLists() {
		b := mustTable(t, l, 7)
		for range 3 {
			if again := mustTable(t, copyEntries(l), 7); !bytes.Equal(again, b) {
				t.Fatalf("the table of %v is %q, then %q", l, b, again)
			}
		}
	}
}
