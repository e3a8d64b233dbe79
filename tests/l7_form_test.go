package tests

import (
	"bytes"
	"math/rand"
	"slices"
	"strings"
	"testing"

	"loop.example/g00150/impl"
)

// checkCode asks every function that reads a table for the code, and for nothing beside it.
func checkCode(t *testing.T, what string, b []byte, want int) {
	t.Helper()
	if l, code := impl.ReadTable(b); code != want || len(l) != 0 {
		t.Fatalf("%s: ReadTable(%.80q) = %v, %d, want none and %d", what, b, l, code, want)
	}
	for _, key := range []string{"", "a", "k"} {
		if l, looked, code := impl.FindInTable(b, key); code != want || looked != 0 || len(l) != 0 {
			t.Fatalf("%s: FindInTable(%.80q, %q) = %v, %d, %d, want none, 0 and %d", what, b, key, l, looked, code, want)
		}
	}
	if many, code := impl.BlocksOf(b); code != want || many != 0 {
		t.Fatalf("%s: BlocksOf(%.80q) = %d, %d, want 0 and %d", what, b, many, code, want)
	}
	if least, most, code := impl.BoundsOf(b); code != want || least != "" || most != "" {
		t.Fatalf("%s: BoundsOf(%.80q) = %q, %q, %d, want no texts and %d", what, b, least, most, code, want)
	}
}

func checkForm(t *testing.T, what string, b []byte) {
	t.Helper()
	checkCode(t, what, b, impl.TableForm)
}

// formLists are entries whose tables are changed at each place.
func formLists() [][]impl.Entry {
	return [][]impl.Entry{
		{dropOf("k", 7)},
		{putOf("k", 300, 5)},
		kindsOf("a", "ab", "abc", "b"),
		kindsOf("k", "ka", "kaa", "kab", "kb", "kba"),
		kindsOf("a", "k", "k", "k", "k", "k", "k", "k", "k", "z"),
		kindsOf(apart(17)...),
	}
}

func TestPromise7CodeOfShortTables(t *testing.T) {
	for many := range 20 {
		for _, b := range [][]byte{make([]byte, many), []byte(strings.Repeat("TBL1", 5))[20-many:], bytesOf(many, 3)} {
			checkCode(t, "fewer than 20 bytes", b, impl.TableShort)
		}
	}
	checkCode(t, "no bytes", nil, impl.TableShort)
	checkCode(t, "20 noughts", make([]byte, 20), impl.TableMark)
	checkCode(t, "20 bytes with another check", append(make([]byte, 16), "TBL1"...), impl.TableSum)
	checkForm(t, "20 bytes with their check", sealed(nil, 0, 0, 0))
	checkForm(t, "20 bytes that tell of an entry", sealed(nil, 0, 0, 1))
}

func TestPromise7CodeOfLongTables(t *testing.T) {
	for _, many := range []int{impl.MaxTable - 1, impl.MaxTable} {
		b := make([]byte, many)
		checkCode(t, "noughts", b, impl.TableMark)
		checkCode(t, "another check", append(b[:many-4:many-4], "TBL1"...), impl.TableSum)
		checkForm(t, "noughts with their check", sealed(b[20:], 0, 0, 0))
		checkForm(t, "noughts with places", sealed(b[20:], many-60, many-40, 100))
	}
	for _, many := range []int{impl.MaxTable + 1, impl.MaxTable + 2, 10000, 100000} {
		b := make([]byte, many)
		checkCode(t, "noughts, too many", b, impl.TableShort)
		checkCode(t, "another check, too many", append(b[:many-4:many-4], "TBL1"...), impl.TableShort)
		checkCode(t, "too many bytes with their check", sealed(b[20:], 0, 0, 0), impl.TableShort)
	}
}

func TestPromise7MarkAheadOfSumAheadOfForm(t *testing.T) {
	for _, l := range formLists() {
		b := mustTable(t, l, 10)
		sum, mark := len(b)-8, len(b)-4
		for i := range 4 {
			for _, by := range []byte{1, 128, 255} {
				other := slices.Clone(b)
				other[sum+i] ^= by
				checkCode(t, "another check", other, impl.TableSum)
				other[mark+3-i] ^= by
				checkCode(t, "another check and mark", other, impl.TableMark)
				other[sum+i] ^= by
				checkCode(t, "another mark", other, impl.TableMark)
			}
		}
		for _, word := range []string{"TBL0", "TBL2", "tbl1", "1LBT", "TBL\x00", "\x00\x00\x00\x00"} {
			checkCode(t, "another mark", append(b[:mark:mark], word...), impl.TableMark)
		}
		noForm := sealed(b[:len(b)-20], 0, 0, 1)
		noForm[sum]++
		checkCode(t, "no form and another check", noForm, impl.TableSum)
		noForm[mark]++
		checkCode(t, "no form, another check and mark", noForm, impl.TableMark)
		checkCode(t, "the check ahead of the end's places", slices.Concat(b[:len(b)-20], b[sum:mark], b[len(b)-20:sum], b[mark:]), impl.TableSum)
	}
}

// longer are other forms of one number, with groups that it does not need.
func longer(form []byte) [][]byte {
	var out [][]byte
	for _, more := range []string{"\x00", "\x80\x00", "\x80\x80\x80\x80\x80\x00", "\x80\x80\x80\x80\x80\x80\x80\x80\x80\x00"} {
		b := slices.Clone(form)
		b[len(b)-1] |= 128
		out = append(out, append(b, more...))
	}
	return out
}

// eachRow changes each row of a form in turn and tells the table that it is then.
func eachRow(l []impl.Entry, perKey int, change func(row rowForm, tell func(rowForm))) [][]byte {
	var out [][]byte
	f := formOf(perKey, inFours(l)...)
	for i, block := range f.blocks {
		for j := range block {
			change(block[j], func(row rowForm) {
				other := f
				other.blocks = slices.Clone(f.blocks)
				other.blocks[i] = slices.Clone(block)
				other.blocks[i][j] = row
				out = append(out, other.laidOut().bytes())
			})
		}
	}
	return out
}

func checkRows(t *testing.T, what string, change func(row rowForm, tell func(rowForm))) {
	t.Helper()
	told := 0
	for _, l := range formLists() {
		for _, b := range eachRow(l, 10, change) {
			checkForm(t, what, b)
			told++
		}
	}
	if told == 0 {
		t.Errorf("%s: nothing was changed", what)
	}
}

func TestPromise7RowsAreReadAsTheyStand(t *testing.T) {
	for _, l := range formLists() {
		for _, b := range eachRow(l, 10, func(row rowForm, tell func(rowForm)) { tell(row) }) {
			if !bytes.Equal(b, mustTable(t, l, 10)) {
				t.Fatalf("%v are laid out in another way", l)
			}
		}
	}
}

func TestPromise7NumbersInALongerForm(t *testing.T) {
	checkRows(t, "how many are shared", func(row rowForm, tell func(rowForm)) {
		for _, row.shared = range longer(row.shared) {
			tell(row)
		}
	})
	checkRows(t, "how many follow", func(row rowForm, tell func(rowForm)) {
		for _, row.rest = range longer(row.rest) {
			tell(row)
		}
	})
	checkRows(t, "the Seq", func(row rowForm, tell func(rowForm)) {
		for _, row.seq = range longer(row.seq) {
			tell(row)
		}
	})
	checkRows(t, "how many bytes the agg has", func(row rowForm, tell func(rowForm)) {
		for _, row.many = range longer(row.many) {
			tell(row)
		}
	})
	checkRows(t, "a number of the agg", func(row rowForm, tell func(rowForm)) {
		if a, ok := impl.ReadAgg(row.agg); ok {
			for _, row.agg = range longerForms(a) {
				row.many = varOf(len(row.agg))
				tell(row)
			}
		}
	})
}

func TestPromise7NumbersThatAreTooGreat(t *testing.T) {
	for _, far := range append(farInts(), 1<<31, 1<<16, 8001, 8000, 200) {
		checkRows(t, "how many are shared", func(row rowForm, tell func(rowForm)) {
			row.shared = varOf(far)
			tell(row)
		})
		checkRows(t, "how many follow", func(row rowForm, tell func(rowForm)) {
			row.rest = varOf(far)
			tell(row)
		})
		checkRows(t, "how many bytes the agg has", func(row rowForm, tell func(rowForm)) {
			row.many = varOf(far)
			tell(row)
		})
	}
	for _, seq := range append(farInts(), 0, -1, topSeq+1, 1<<31) {
		checkRows(t, "the Seq", func(row rowForm, tell func(rowForm)) {
			row.seq = varOf(seq)
			tell(row)
		})
	}
	checkRows(t, "a number that never ends", func(row rowForm, tell func(rowForm)) {
		row.seq = bytes.Repeat([]byte{255}, 12)
		tell(row)
	})
}

func TestPromise7FewerBytesSharedThanThereAre(t *testing.T) {
	told := 0
	for _, l := range formLists() {
		f := formOf(10, inFours(l)...)
		for i, block := range f.blocks {
			for j := range block {
				key := l[4*i+j].Key
				for shared := range int(block[j].shared[0]) {
					other := f
					other.blocks = slices.Clone(f.blocks)
					other.blocks[i] = slices.Clone(block)
					row := &other.blocks[i][j]
					row.shared, row.rest, row.key = varOf(shared), varOf(len(key)-shared), []byte(key[shared:])
					checkForm(t, "fewer bytes shared", other.laidOut().bytes())
					told++
				}
			}
		}
	}
	if told < 10 {
		t.Errorf("%d tables alone", told)
	}
}

func TestPromise7BytesSharedWithTheBlockAhead(t *testing.T) {
	l := kindsOf("k", "ka", "kaa", "kab", "kb", "kba")
	f := formOf(10, inFours(l)...)
	row := &f.blocks[1][0]
	row.shared, row.rest, row.key = varOf(1), varOf(1), []byte("b")
	checkForm(t, "the first of a block shares", f.laidOut().bytes())
	row.shared, row.rest, row.key = varOf(2), varOf(0), nil
	checkForm(t, "the first of a block shares all", f.laidOut().bytes())
	checkForm(t, "more shared than the key ahead has", eachRow(kindsOf("a", "ab"), 10, func(row rowForm, tell func(rowForm)) {
		row.shared, row.rest, row.key = varOf(2), varOf(1), []byte("c")
		tell(row)
	})[1])
}

func TestPromise7FiltersThatAreNotTheirs(t *testing.T) {
	for _, l := range formLists() {
		for _, perKey := range []int{1, 10, 20} {
			f := formOf(perKey, inFours(l)...)
			for place := range 8 * (len(f.filter) - 1) {
				other := f
				other.filter = slices.Clone(f.filter)
				other.filter[1+place/8] ^= 1 << (place % 8)
				checkForm(t, "a filter of other bits", other.bytes())
			}
			for ways := range 256 {
				if byte(ways) != f.filter[0] {
					other := f
					other.filter = append([]byte{byte(ways)}, f.filter[1:]...)
					checkTableOrNone(t, other.bytes())
				}
			}
			for _, filter := range [][]byte{
				nil, f.filter[:1], f.filter[:len(f.filter)-1], append(slices.Clone(f.filter), 0), append(slices.Clone(f.filter), make([]byte, 191)...),
				make([]byte, len(f.filter)), bytes.Repeat([]byte{255}, len(f.filter)), append(slices.Clone(f.filter), f.filter...),
				append(f.filter[:1:1], bytes.Repeat([]byte{255}, len(f.filter)-1)...), make([]byte, 201), append([]byte{1}, make([]byte, 201)...),
			} {
				other := f
				other.filter = filter
				checkForm(t, "another filter", other.laidOut().bytes())
			}
		}
	}
}

func TestPromise7FiltersOfOtherKeys(t *testing.T) {
	l := kindsOf(slices.Concat([]string{"a"}, manyTimes("k", 13))...)
	f := formOf(10, inFours(l)...)
	f.filter = plainFilterBytes(slices.Concat([]string{"a"}, manyTimes("k", 13)), 10)
	checkForm(t, "a filter that counts a key as often as it comes", f.laidOut().bytes())
	f.filter = plainFilterBytes([]string{"a"}, 10)
	checkForm(t, "a filter that hides a key", f.laidOut().bytes())
	f.filter = plainFilterBytes([]string{"a", "k", "z"}, 10)
	checkForm(t, "a filter of a further key", f.laidOut().bytes())
	f.filter = plainFilterBytes(nil, 10)
	checkForm(t, "a filter of nothing", f.laidOut().bytes())
}

func TestPromise7FiltersOfNoPerKey(t *testing.T) {
	l := kindsOf("a", "b", "c", "d")
	keys := keysOnce(l)
	for ways := 1; ways <= 8; ways++ {
		for many := 1; many <= 30; many++ {
			made := false
			for perKey := 1; perKey <= 20; perKey++ {
				made = made || waysBy[perKey] == ways && len(plainFilter(keys, perKey).Bits) == many
			}
			var places []int
			for _, key := range keys {
				places = append(places, plainPlaces(key, ways, many)...)
			}
			f := formOf(10, l)
			f.filter = append([]byte{byte(ways)}, filterWith(ways, many, places...).Bits...)
			b := f.laidOut().bytes()
			if !made {
				checkForm(t, "a filter of no perKey", b)
			} else if back, code := impl.ReadTable(b); code != impl.TableOk || !sameEntries(back, l) {
				t.Fatalf("a filter of %d ways, %d bytes: %v, %d", ways, many, back, code)
			}
		}
	}
}

func TestPromise7AnIndexThatIsAnother(t *testing.T) {
	for _, l := range formLists() {
		f := formOf(10, inFours(l)...)
		at := 0
		for i := range f.index {
			last, many := f.lasts[i], len(f.blockBytes(i))
			for _, row := range slices.Concat([][]byte{
				indexRow(last, at+1, many), indexRow(last, at+128, many), indexRow(last, 1<<40, many), indexRow(last, -1, many),
				indexRow(last, at, many-1), indexRow(last, at, many+1), indexRow(last, at, 0), indexRow(last, at, -1), indexRow(last, many, at),
				indexRow(last+"a", at, many), indexRow(last+"\x00", at, many), indexRow(last[:len(last)-1], at, many), indexRow("", at, many), indexRow("0", at, many),
				indexRow(strings.Repeat("k", 300), at, many), nil, slices.Concat(f.index[i], f.index[i]), f.index[i][:len(f.index[i])-1], append(slices.Clone(f.index[i]), 0),
			}, longerRows(last, at, many)) {
				other := f
				other.index = slices.Clone(f.index)
				other.index[i] = row
				checkForm(t, "another row of the index", other.bytes())
			}
			at += many
		}
		if len(f.index) > 1 {
			slices.Reverse(f.index)
			checkForm(t, "an index turned round", f.bytes())
		}
		f.index = nil
		checkForm(t, "no index", f.bytes())
	}
}

func longerRows(last string, at int, many int) [][]byte {
	var out [][]byte
	for _, form := range longer(varOf(len(last))) {
		out = append(out, slices.Concat(form, []byte(last), varOf(at), varOf(many)))
	}
	for _, form := range longer(varOf(at)) {
		out = append(out, slices.Concat(varOf(len(last)), []byte(last), form, varOf(many)))
	}
	for _, form := range longer(varOf(many)) {
		out = append(out, slices.Concat(varOf(len(last)), []byte(last), varOf(at), form))
	}
	return out
}

func TestPromise7BlocksOfOtherLengths(t *testing.T) {
	for _, l := range [][]impl.Entry{kindsOf(apart(12)...), kindsOf("k", "ka", "kaa", "kab", "kb", "kba", "l", "la", "lb"), kindsOf(manyTimes("k", 9)...)} {
		for _, many := range []int{1, 2, 3, 5, 6, 8, 12} {
			checkForm(t, "blocks of another length", formOf(10, slices.Collect(slices.Chunk(l, many))...).bytes())
		}
		for cut := 1; cut < len(l); cut++ {
			checkForm(t, "two blocks", formOf(10, l[:cut], l[cut:]).bytes())
		}
		checkForm(t, "a short block ahead", formOf(10, append([][]impl.Entry{l[:1]}, inFours(l[1:])...)...).bytes())
		checkForm(t, "a block without entries", formOf(10, append(inFours(l), nil)...).bytes())
	}
}

func TestPromise7AnotherEnd(t *testing.T) {
	for _, l := range formLists() {
		f := formOf(10, inFours(l)...)
		for _, by := range []int{-1, 1, 4, -4, 256, 1 << 24, 1 << 31, 1<<32 - 1} {
			other := f
			other.entries += by
			checkForm(t, "another number of entries", other.bytes())
			other = f
			other.filterAt += by
			checkForm(t, "another place of the filter", other.bytes())
			other.indexAt += by
			checkForm(t, "other places", other.bytes())
			other.filterAt -= by
			checkForm(t, "another place of the index", other.bytes())
		}
		for _, filterAt := range []int{0, f.indexAt, len(f.bytes()) - 20, len(f.bytes()), 8000, 1<<31 - 1, 1 << 31, 1<<32 - 1} {
			for _, indexAt := range []int{0, f.filterAt, len(f.bytes()) - 20, len(f.bytes()) - 19, len(f.bytes()), 8000, 1<<31 - 1, 1 << 31, 1<<32 - 1} {
				other := f
				other.filterAt, other.indexAt = filterAt, indexAt
				checkForm(t, "places that are none", other.bytes())
			}
		}
	}
}

func TestPromise7BytesLeftOver(t *testing.T) {
	for _, l := range formLists() {
		f := formOf(10, inFours(l)...)
		b := f.bytes()
		body := b[:len(b)-20]
		for _, more := range []string{"\x00", "\x01", "\xff", "\x00\x00\x00\x00\x00", "\x00\x01\x01\x02\x00a", string(f.filter), "TBL1", strings.Repeat("\x00", 300)} {
			for at := range len(body) + 1 {
				filterAt, indexAt := f.filterAt, f.indexAt
				if at <= filterAt {
					filterAt += len(more)
				}
				if at <= indexAt {
					indexAt += len(more)
				}
				with := slices.Concat(body[:at], []byte(more), body[at:])
				checkTableOrNone(t, sealed(with, filterAt, indexAt, f.entries))
				checkForm(t, "the places stand as they were", sealed(with, f.filterAt, f.indexAt, f.entries))
			}
			checkForm(t, "bytes behind the index", sealed(slices.Concat(body, []byte(more)), f.filterAt, f.indexAt, f.entries))
			checkForm(t, "bytes behind the filter", sealed(slices.Concat(body[:f.indexAt], []byte(more), body[f.indexAt:]), f.filterAt, f.indexAt+len(more), f.entries))
			checkForm(t, "bytes behind the blocks", sealed(slices.Concat(body[:f.filterAt], []byte(more), body[f.filterAt:]), f.filterAt+len(more), f.indexAt+len(more), f.entries))
			checkForm(t, "bytes ahead of all", sealed(slices.Concat([]byte(more), body), f.filterAt+len(more), f.indexAt+len(more), f.entries))
		}
		checkForm(t, "the index ahead of the filter", sealed(slices.Concat(body[:f.filterAt], body[f.indexAt:], f.filter), f.filterAt+len(body)-f.indexAt, f.filterAt, f.entries))
		checkForm(t, "the filter ahead of all", sealed(slices.Concat(f.filter, body[:f.filterAt], body[f.indexAt:]), 0, f.indexAt, f.entries))
		checkForm(t, "an end behind the end", resealed(append(slices.Clone(b), b[len(b)-20:]...)))
	}
}

func TestPromise7EntriesThatMakeNoTable(t *testing.T) {
	for _, c := range badEntries() {
		e := c.entry
		if len(e.Key) > 1000 || int(byte(e.Kind)) != e.Kind {
			// Such ones can't be written down.
			continue
		}
		checkForm(t, c.what, formOf(10, []impl.Entry{e}).bytes())
		checkForm(t, c.what, formOf(10, []impl.Entry{putOf("A", 9, 1), e}).bytes())
		checkForm(t, c.what, formOf(10, []impl.Entry{e, putOf("\xff", 4, 1)}).bytes())
	}
	checkRows(t, "a put without an agg, a drop with one", func(row rowForm, tell func(rowForm)) {
		if row.kind == impl.KindDrop {
			row.agg = plainAggBytes(noAgg())
		} else {
			row.agg = nil
		}
		row.many = varOf(len(row.agg))
		tell(row)
	})
	for kind := range 256 {
		if kind < 1 || kind > 3 {
			checkRows(t, "a Kind that is none", func(row rowForm, tell func(rowForm)) {
				row.kind = byte(kind)
				tell(row)
			})
		}
	}
}

func TestPromise7EntriesOutOfOrderMakeNoTable(t *testing.T) {
	for _, l := range [][]impl.Entry{
		{putOf("b", 1, 1), putOf("a", 2, 1)},
		{putOf("b", 2, 1), putOf("a", 1, 1)},
		{putOf("ka", 1, 1), putOf("k", 2, 1)},
		{putOf("\xff", 1, 1), putOf("z", 2, 1)},
		{putOf("k", 1, 1), putOf("k", 2, 1)},
		{putOf("k", 1, 1), putOf("k", 1, 1)},
		{putOf("j", 1, 1), putOf("k", 1, 1)},
		{putOf("a", 1, 1), putOf("b", 2, 1), putOf("a", 3, 1)},
		dropsOf("a", "b", "c", "e", "d"),
		dropsOf("b", "c", "d", "e", "a"),
		{dropOf("k", 9), dropOf("k", 8), dropOf("k", 7), dropOf("k", 5), dropOf("k", 6)},
		{dropOf("a", 5), dropOf("b", 4), dropOf("c", 3), dropOf("d", 2), dropOf("e", 5)},
	} {
		for perKey := 1; perKey <= 20; perKey++ {
			checkForm(t, "entries out of order", plainTable(l, perKey))
		}
	}
}

func TestPromise7NoEntriesAndTooMany(t *testing.T) {
	for perKey := 1; perKey <= 20; perKey++ {
		checkForm(t, "no entries", plainTable(nil, perKey))
		checkForm(t, "101 entries", plainTable(dropsOf(apart(101)...), perKey))
		checkForm(t, "101 entries of one key", plainTable(dropsOf(manyTimes("k", 101)...), perKey))
		checkForm(t, "150 entries", plainTable(dropsOf(manyTimes("k", 150)...), perKey))
	}
	f := formOf(10, inFours(dropsOf(manyTimes("k", 101)...))...)
	f.entries = 100
	checkForm(t, "101 entries, 100 told", f.bytes())
	f = formOf(10, inFours(dropsOf(manyTimes("k", 400)...))...)
	checkForm(t, "400 entries", f.bytes())
}

// checkTableOrNone asks of any bytes whose mark and check are right that they are read as
// a table only where they are one: some perKey makes them of the entries that they tell.
func checkTableOrNone(t *testing.T, b []byte) bool {
	t.Helper()
	l, code := impl.ReadTable(b)
	if code == impl.TableForm {
		checkForm(t, "no table", b)
		return false
	}
	if code != impl.TableOk || len(l) < 1 || len(l) > impl.MaxEntries || !impl.GoodEntries(l) {
		t.Fatalf("ReadTable(%q) = %v, %d", b, l, code)
	}
	for perKey := 1; perKey <= 20; perKey++ {
		if bytes.Equal(plainTable(l, perKey), b) {
			return true
		}
	}
	t.Fatalf("%q are read as %v, whose table they are not", b, l)
	return false
}

func TestPromise7EachByteChangedAndSealed(t *testing.T) {
	tables := 0
	for _, l := range formLists()[:4] {
		b := mustTable(t, l, 10)
		for place := range len(b) - 8 {
			for c := range 256 {
				other := slices.Clone(b)
				other[place] = byte(c)
				if checkTableOrNone(t, resealed(other)) {
					tables++
				}
			}
		}
	}
	if tables < 100 {
		t.Errorf("%d tables alone", tables)
	}
}

func TestPromise7BytesCutOutAndSealed(t *testing.T) {
	for _, l := range formLists() {
		b := mustTable(t, l, 10)
		for from := range len(b) - 20 {
			for _, many := range []int{1, 2, 6, 40} {
				if from+many <= len(b)-20 {
					checkForm(t, "bytes are missing", resealed(slices.Delete(slices.Clone(b), from, from+many)))
				}
			}
		}
	}
}

func TestPromise7DrawnBytesSealed(t *testing.T) {
	r := rand.New(rand.NewSource(73))
	lists := formLists()
	for range 20000 {
		b := mustTable(t, lists[r.Intn(len(lists))], 1+r.Intn(20))
		for range 1 + r.Intn(4) {
			b[r.Intn(len(b)-8)] = []byte{0, 1, 2, 3, 4, 127, 128, 255, byte(r.Intn(256))}[r.Intn(9)]
		}
		checkTableOrNone(t, resealed(b))
	}
	for range 5000 {
		body := bytesOf(r.Intn(60), r.Intn(256))
		for i := range body {
			body[i] = byte(r.Intn(4))
		}
		filterAt := r.Intn(len(body) + 2)
		checkTableOrNone(t, sealed(body, filterAt, filterAt+r.Intn(12), r.Intn(3)))
	}
}
