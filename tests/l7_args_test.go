package tests

import (
	"bytes"
	"math/rand"
	"slices"
	"strings"
	"testing"

	"loop.example/g00150/impl"
)

func checkNoTable(t *testing.T, what string, l []impl.Entry, perKey int) {
	t.Helper()
	if b, ok := impl.BuildTable(l, perKey); ok || len(b) != 0 {
		t.Errorf("%s: BuildTable of %d entries, %d = %.60q, %v, want none and false", what, len(l), perKey, b, ok)
	}
}

func TestPromise13TablesOfSoManyEntries(t *testing.T) {
	for perKey := 1; perKey <= 20; perKey++ {
		checkNoTable(t, "no entries", nil, perKey)
		checkNoTable(t, "no entries", []impl.Entry{}, perKey)
		for _, many := range []int{101, 102, 104, 300} {
			checkNoTable(t, "too many", dropsOf(manyTimes("k", many)...), perKey)
		}
		checkNoTable(t, "too many", dropsOf(apart(101)...), perKey)
		for _, many := range []int{1, 100} {
			mustTable(t, dropsOf(apart(many)...), perKey)
			mustTable(t, dropsOf(manyTimes("k", many)...), perKey)
		}
	}
}

func TestPromise13TablesOfAnyPerKey(t *testing.T) {
	for _, perKey := range append([]int{0, -1, -10, 21, 22, 100, 256 + 10}, farInts()...) {
		for _, l := range tableLists() {
			checkNoTable(t, "perKey is none", l, perKey)
		}
		checkNoTable(t, "perKey is none", nil, perKey)
		checkNoTable(t, "perKey is none", []impl.Entry{{}}, perKey)
	}
}

func TestPromise13TablesOfEntriesThatAreNotGood(t *testing.T) {
	for _, c := range badEntries() {
		for _, perKey := range []int{1, 10, 20} {
			checkNoTable(t, c.what, []impl.Entry{c.entry}, perKey)
			checkNoTable(t, c.what, []impl.Entry{putOf("A", 9, 1), c.entry}, perKey)
			checkNoTable(t, c.what, []impl.Entry{c.entry, putOf("\xff", 4, 1)}, perKey)
			checkNoTable(t, c.what, append(dropsOf("A", "B", "C", "D"), c.entry), perKey)
		}
	}
	for _, l := range [][]impl.Entry{
		dropsOf("b", "a"), dropsOf("a", "b", "a"), dropsOf("ka", "k"), dropsOf("\xff", "z"), dropsOf("a", "b", "c", "e", "d"),
		{putOf("k", 1, 1), putOf("k", 2, 1)}, {putOf("k", 1, 1), putOf("k", 1, 1)}, {putOf("j", 1, 1), putOf("k", 1, 1)},
		{dropOf("a", 5), dropOf("b", 4), dropOf("c", 3), dropOf("d", 2), dropOf("e", 5)},
	} {
		checkNoTable(t, "out of order", l, 10)
	}
	l := dropsOf(apart(100)...)
	for place := 1; place < 100; place++ {
		other := copyEntries(l)
		other[place].Seq = other[0].Seq
		checkNoTable(t, "a Seq twice", other, 10)
		other = copyEntries(l)
		other[place-1], other[place] = other[place], other[place-1]
		checkNoTable(t, "two are exchanged", other, 10)
	}
}

func TestPromise13TablesThatAreTooLong(t *testing.T) {
	var l []impl.Entry
	most := fullOf(impl.MaxCount, -impl.MaxNumber, impl.MaxNumber, slices.Repeat([]int{impl.MaxCount}, impl.Buckets)...)
	for i := range 100 {
		key := string([]byte{byte(2 * i)}) + strings.Repeat("\xff", impl.MaxKeyBytes-1)
		l = append(l, impl.Entry{Key: key, Seq: topSeq - i, Kind: impl.KindPut, Agg: most})
	}
	for many := range l {
		for _, perKey := range []int{1, 10, 20} {
			if want := plainTable(l[:many+1], perKey); len(want) > impl.MaxTable {
				checkNoTable(t, "too long", l[:many+1], perKey)
			} else if many < 4 {
				checkTable(t, l[:many+1], perKey)
			}
		}
	}
}

// plainCode tells what the end of any bytes gives by the chapter's words alone.
func plainCode(b []byte) int {
	switch {
	case len(b) < 20 || len(b) > 8000:
		return impl.TableShort
	case !bytes.HasSuffix(b, []byte{84, 66, 76, 49}):
		return impl.TableMark
	case !bytes.Equal(resealed(b), b):
		return impl.TableSum
	}
	return impl.TableForm
}

func TestPromise13TablesCutAtEveryPlace(t *testing.T) {
	for _, l := range tableLists() {
		b := mustTable(t, l, 10)
		if len(b) > 1500 {
			continue
		}
		for cut := range b {
			checkCode(t, "cut", b[:cut], plainCode(b[:cut]))
			checkCode(t, "without its front", b[cut+1:], plainCode(b[cut+1:]))
			if cut < len(b)-20 {
				checkCode(t, "its middle cut out", append(b[:cut:cut], b[len(b)-20:]...), impl.TableSum)
				checkCode(t, "its middle cut out and sealed", resealed(append(b[:cut:cut], b[len(b)-20:]...)), impl.TableForm)
			}
			checkCode(t, "cut and sealed", sealed(b[:cut], 0, 0, 0), impl.TableForm)
		}
		checkCode(t, "a byte more", append(slices.Clone(b), 0), impl.TableMark)
		checkCode(t, "twice", slices.Concat(b, b), impl.TableSum)
		checkCode(t, "twice and sealed", resealed(slices.Concat(b, b)), impl.TableForm)
	}
}

func TestPromise13AnyBytesAsATable(t *testing.T) {
	r := rand.New(rand.NewSource(74))
	for range 3000 {
		b := make([]byte, r.Intn(200))
		for i := range b {
			b[i] = byte(r.Intn(256))
		}
		checkCode(t, "drawn bytes", b, plainCode(b))
		if len(b) >= 20 {
			b = resealed(b)
			checkCode(t, "drawn bytes, sealed", b, impl.TableForm)
		}
	}
	for _, c := range []byte{0, 1, 2, 127, 128, 255} {
		for _, many := range []int{20, 21, 100, impl.MaxTable} {
			b := bytes.Repeat([]byte{c}, many)
			checkCode(t, "one byte again and again", b, impl.TableMark)
			checkCode(t, "one byte again and again, sealed", resealed(b), impl.TableForm)
			for _, place := range []int{0, many / 2, many - 20} {
				checkCode(t, "one byte again and again, with places", sealed(b[20:], place, many-20, 100), impl.TableForm)
			}
		}
	}
}

func TestPromise13AnyKeyIsLookedFor(t *testing.T) {
	keys := append(oddKeys(), strings.Repeat("k", impl.MaxKeyBytes+1), strings.Repeat("\x00", 10000))
	for _, l := range formLists() {
		for perKey := 1; perKey <= 20; perKey++ {
			b := mustTable(t, l, perKey)
			for _, key := range keys {
				want, looked := plainFind(l, perKey, key)
				checkFind(t, b, key, want, looked)
			}
		}
	}
}

func TestPromise13TableArgumentsStay(t *testing.T) {
	for _, list := range slices.Concat(tableLists(), manyEntryLists()) {
		l, stayed := looseEntries(list)
		for _, perKey := range []int{0, 1, 10, 20, 21} {
			impl.BuildTable(l, perKey)
			impl.BuildTable(l[:len(l)/2], perKey)
		}
		if !stayed() {
			t.Fatalf("written into %v", list)
		}
	}
}

// readAll gives bytes to every function that reads a table.
func readAll(b []byte) {
	impl.ReadTable(b)
	impl.BlocksOf(b)
	impl.BoundsOf(b)
	for _, key := range []string{"", "a", "k", "z"} {
		impl.FindInTable(b, key)
	}
}

func TestPromise13BytesOfTablesStay(t *testing.T) {
	for _, l := range formLists() {
		b := append(mustTable(t, l, 10), "behind"...)
		kept := slices.Clone(b)
		for cut := range b {
			readAll(b[:cut])
		}
		if !bytes.Equal(b, kept) {
			t.Fatalf("written into %q, it was %q", b, kept)
		}
		for place := range len(b) - 6 {
			other := slices.Clone(b[:len(b)-6])
			other[place]++
			other = append(resealed(other), "behind"...)
			kept := slices.Clone(other)
			readAll(other[:len(other)-6])
			if !bytes.Equal(other, kept) {
				t.Fatalf("written into %q, it was %q", other, kept)
			}
		}
	}
}

func TestPromise13TablesAreNew(t *testing.T) {
	for _, l := range tableLists() {
		kept, want := copyEntries(l), plainTable(l, 10)
		one, other := mustTable(t, l, 10), mustTable(t, l, 10)
		fill(one)
		if !sameEntries(l, kept) || !bytes.Equal(other, want) || !bytes.Equal(mustTable(t, l, 10), want) {
			t.Fatalf("BuildTable(%v) shares memory", kept)
		}
		fillEntries(l)
		if !bytes.Equal(other, want) {
			t.Fatalf("BuildTable(%v) changed with its argument", kept)
		}
	}
}

func TestPromise13EntriesOfTablesAreNew(t *testing.T) {
	for _, l := range tableLists() {
		b := mustTable(t, l, 10)
		kept := slices.Clone(b)
		one, _ := impl.ReadTable(b)
		other, _ := impl.ReadTable(b)
		least, most, _ := impl.BoundsOf(b)
		if !fillEntries(one) || !bytes.Equal(b, kept) || !sameEntries(other, l) {
			t.Fatalf("ReadTable of %v shares memory", l)
		}
		fill(b)
		if !sameEntries(other, l) || least != l[0].Key || most != l[len(l)-1].Key {
			t.Fatalf("ReadTable of %v changed with its argument", l)
		}
	}
}

func TestPromise13FoundEntriesAreNew(t *testing.T) {
	for _, l := range tableLists() {
		for _, key := range []string{l[0].Key, l[len(l)/2].Key, l[len(l)-1].Key} {
			b := mustTable(t, l, 10)
			kept := slices.Clone(b)
			want, _ := plainFind(l, 10, key)
			one, _, _ := impl.FindInTable(b, key)
			other, _, _ := impl.FindInTable(b, key)
			if !fillEntries(one) || !bytes.Equal(b, kept) || !sameEntries(other, want) {
				t.Fatalf("FindInTable of %v, %q shares memory", l, key)
			}
			fill(b)
			if !sameEntries(other, want) {
				t.Fatalf("FindInTable of %v, %q changed with its argument", l, key)
			}
		}
	}
}

func TestPromise13NothingBehindTableAnswers(t *testing.T) {
	for _, l := range tableLists() {
		for _, perKey := range []int{1, 10, 20} {
			b := mustTable(t, l, perKey)
			checkNoughtsBehind(t, "BuildTable", b)
			back, _ := impl.ReadTable(b)
			checkNothingBehindEntries(t, back)
			for _, key := range keysOnce(l) {
				of, _, _ := impl.FindInTable(b, key)
				checkNothingBehindEntries(t, of)
			}
		}
	}
}

func TestPromise13NothingBehindLengthsOfTables(t *testing.T) {
	for _, list := range slices.Concat(tableLists(), manyEntryLists()) {
		l, _ := looseEntries(list)
		got, ok := impl.BuildTable(l, 10)
		want, too := impl.BuildTable(list, 10)
		if ok != too || !bytes.Equal(got, want) {
			t.Fatalf("BuildTable(%v) hangs on what lies behind", list)
		}
	}
	for _, l := range formLists() {
		b := mustTable(t, l, 10)
		for cut := range b {
			checkCode(t, "the rest lies behind", b[:cut], plainCode(b[:cut]))
		}
		for _, more := range [][]byte{{0}, []byte("TBL1"), b} {
			long := slices.Concat(b, more)[:len(b)]
			if back, code := impl.ReadTable(long); code != impl.TableOk || !sameEntries(back, l) {
				t.Fatalf("ReadTable of %v = %v, %d, with more behind", l, back, code)
			}
			for _, key := range keysOnce(l) {
				want, looked := plainFind(l, 10, key)
				checkFind(t, long, key, want, looked)
			}
		}
	}
}
