package tests

import (
	"bytes"
	"math"
	"math/rand"
	"slices"
	"testing"

	"loop.example/g00150/impl"
)

func checkNoPieces(t *testing.T, at int, record []byte) {
	t.Helper()
	if b, ok := impl.LogPieces(at, record); len(b) != 0 || ok {
		t.Errorf("LogPieces(%d, %d bytes) = %.40q, %v, want the zero answer", at, len(record), b, ok)
	}
}

func checkNoLogOf(t *testing.T, what string, records [][]byte) {
	t.Helper()
	if b, ok := impl.LogOf(records); len(b) != 0 || ok {
		t.Errorf("LogOf of %s = %.40q, %v, want the zero answer", what, b, ok)
	}
}

func checkNoLog(t *testing.T, b []byte) {
	t.Helper()
	if l, n, ok := impl.ReadLog(b); len(l) != 0 || n != 0 || ok {
		t.Errorf("ReadLog of %d bytes = %d records, %d, %v, want the zero answer", len(b), len(l), n, ok)
	}
}

func TestPromise13LogPlaces(t *testing.T) {
	for _, at := range []int{-1, -6, -58, -64, -65, math.MinInt, impl.MaxLog + 1, impl.MaxLog + 64, math.MaxInt, math.MaxInt - 5} {
		for _, many := range []int{0, 1, 58, 200, impl.MaxRecord, impl.MaxRecord + 1} {
			checkNoPieces(t, at, make([]byte, many))
		}
		checkNoPieces(t, at, nil)
	}
	for _, at := range []int{0, 1, 63, 64, impl.MaxLog - 1, impl.MaxLog} {
		for _, record := range [][]byte{nil, {}, {7}, bytesOf(impl.MaxRecord, 1)} {
			if b, ok := impl.LogPieces(at, record); !ok || !bytes.Equal(b, plainPieces(at, record)) {
				t.Errorf("LogPieces(%d, %d bytes) = %.40q, %v", at, len(record), b, ok)
			}
		}
	}
}

func TestPromise13LongRecords(t *testing.T) {
	for _, many := range []int{impl.MaxRecord + 1, impl.MaxRecord + 58, impl.MaxLog, impl.MaxLog + 1, 100000} {
		record := make([]byte, many)
		for _, at := range []int{0, 58, 63, impl.MaxLog} {
			checkNoPieces(t, at, record)
		}
		checkNoLogOf(t, "a long record", [][]byte{record})
		checkNoLogOf(t, "a long record behind others", [][]byte{nil, {1}, record})
		checkNoLogOf(t, "a long record ahead of others", [][]byte{record, {1}, nil})
	}
	if b, ok := impl.LogOf([][]byte{bytesOf(impl.MaxRecord, 1)}); !ok || !bytes.Equal(b, plainPieces(0, bytesOf(impl.MaxRecord, 1))) {
		t.Errorf("LogOf of the longest record: %v", ok)
	}
}

func TestPromise13ManyRecords(t *testing.T) {
	for _, many := range []int{0, 1, 3} {
		records := recordsOf(slices.Repeat([]int{many}, 60)...)
		b, ok := impl.LogOf(records)
		if want, _ := plainLog(records); !ok || !bytes.Equal(b, want) {
			t.Errorf("LogOf of 60 records of %d bytes = %.40q, %v", many, b, ok)
		}
		checkNoLogOf(t, "61 records", append(records, nil))
		checkNoLogOf(t, "61 records", append(records, []byte("x")))
	}
	for _, many := range []int{61, 62, 120, 5000} {
		checkNoLogOf(t, "many records", make([][]byte, many))
	}
	if b, ok := impl.LogOf(nil); len(b) != 0 || !ok {
		t.Errorf("LogOf of none = %q, %v", b, ok)
	}
}

// fullLog has records whose log is as long as a log may be, but for more bytes.
func fullLog(t *testing.T, more int) [][]byte {
	t.Helper()
	records := recordsOf(2000, 2000, 2000, 2000, 2000, 2000, 2000, 2000)
	for many := range impl.MaxRecord {
		list := append(slices.Clone(records), bytesOf(1000, 3), bytesOf(many, 5))
		if log, _ := plainLog(list); len(log) == impl.MaxLog+more {
			return list
		}
	}
	t.Fatalf("no records make a log of MaxLog and %d bytes", more)
	return nil
}

func TestPromise13LogsOfMaxLog(t *testing.T) {
	records := fullLog(t, 0)
	want, _ := plainLog(records)
	b, ok := impl.LogOf(records)
	if !ok || len(b) != impl.MaxLog || !bytes.Equal(b, want) {
		t.Fatalf("LogOf of MaxLog bytes: %d bytes, %v", len(b), ok)
	}
	wantLog(t, "a log of MaxLog bytes", b, records, impl.MaxLog)
	for _, more := range []int{1, 2, 60} {
		long := fullLog(t, more)
		checkNoLogOf(t, "more than MaxLog bytes", long)
		log, _ := plainLog(long)
		checkNoLog(t, log)
		wantLog(t, "a long log cut at MaxLog", log[:impl.MaxLog], long[:len(long)-1], len(plainOf(long[:len(long)-1])))
	}
	checkNoLogOf(t, "a record behind MaxLog bytes", append(slices.Clone(records), nil))
	checkNoLogOf(t, "long records", recordsOf(slices.Repeat([]int{impl.MaxRecord}, 60)...))
	wantLog(t, "the last byte is not there", b[:impl.MaxLog-1], records[:len(records)-1], len(plainOf(records[:len(records)-1])))
}

func plainOf(records [][]byte) []byte {
	log, _ := plainLog(records)
	return log
}

func TestPromise13LongLogs(t *testing.T) {
	for _, ahead := range [][]byte{nil, plainOf(recordsOf(2, 60)), plainOf(fullLog(t, 0))} {
		for _, many := range []int{impl.MaxLog + 1, impl.MaxLog + 64, 100000} {
			b := make([]byte, many)
			copy(b, ahead)
			checkNoLog(t, b)
		}
	}
	for _, b := range [][]byte{nil, {}} {
		wantLog(t, "no bytes", b, nil, 0)
	}
	wantLog(t, "MaxLog noughts", make([]byte, impl.MaxLog), nil, 0)
	wantLog(t, "MaxLog bytes of 255", bytes.Repeat([]byte{255}, impl.MaxLog), nil, 0)
}

func TestPromise13AnyBytesAsALog(t *testing.T) {
	draw := rand.New(rand.NewSource(13))
	for range 3000 {
		b := make([]byte, draw.Intn(300))
		for i := range b {
			b[i] = byte(draw.Intn(256))
			if draw.Intn(2) == 0 {
				b[i] = byte(draw.Intn(7))
			}
		}
		want := plainRead(b)
		wantLog(t, "any bytes", b, want.records, want.whole)
	}
	for many := range 7 {
		for c := range 256 {
			wantLog(t, "few bytes", bytes.Repeat([]byte{byte(c)}, many), nil, 0)
		}
	}
}

func TestPromise13LogArgumentsStay(t *testing.T) {
	row := bytesOf(400, 9)
	kept := slices.Clone(row)
	for at := range 130 {
		for _, many := range []int{0, 1, 57, 58, 59, 200} {
			impl.LogPieces(at, row[:many])
		}
	}
	list := [][]byte{row[:2], row[1:70], nil, row[3:3], row[100:300], row[300:], row}
	impl.LogOf(list[:5])
	impl.LogOf(list)
	if !bytes.Equal(row, kept) || len(list[1]) != 69 || len(list[2]) != 0 || len(list[6]) != 400 {
		t.Error("written into the records")
	}
	for _, records := range someLogs() {
		log, _ := plainLog(records)
		kept := slices.Clone(log)
		for cut := range log {
			impl.ReadLog(log[:cut])
		}
		impl.ReadLog(log)
		if !bytes.Equal(log, kept) {
			t.Fatal("written into the log")
		}
	}
}

func TestPromise13LogSharesNothingWithArguments(t *testing.T) {
	row := bytesOf(400, 9)
	kept := slices.Clone(row)
	for _, at := range []int{0, 30, 57, 58, 59, 63, 64} {
		for _, many := range []int{0, 1, 40, 58, 59, 200} {
			b, _ := impl.LogPieces(at, row[:many])
			fill(b)
		}
	}
	for _, list := range [][][]byte{{row}, {row[:5]}, {row[:5], row[:5], row[5:90]}} {
		b, _ := impl.LogOf(list)
		fill(b)
	}
	if !bytes.Equal(row, kept) {
		t.Error("pieces share memory with the record")
	}
	for _, records := range someLogs() {
		log, _ := plainLog(records)
		kept := slices.Clone(log)
		list, whole, _ := impl.ReadLog(log)
		again, _, _ := impl.ReadLog(log)
		for _, record := range list {
			fill(record)
		}
		if !bytes.Equal(log, kept) || !slices.EqualFunc(again, records, bytes.Equal) {
			t.Fatal("a record shares memory with its log, or with another answer")
		}
		fill(log)
		if whole != len(log) || !slices.EqualFunc(again, records, bytes.Equal) {
			t.Fatal("a record changed with its log")
		}
	}
}

func TestPromise13RecordsShareNothingAmongThem(t *testing.T) {
	for _, records := range append(someLogs(), recordsOf(impl.MaxRecord, 1, 300, 59, 58, 0, 2)) {
		log, _ := plainLog(records)
		for i := range records {
			list, _, _ := impl.ReadLog(log)
			fill(list[i])
			for j := range list {
				if i != j && !bytes.Equal(list[j], records[j]) {
					t.Fatalf("records %d and %d share memory", i, j)
				}
			}
		}
	}
}

func TestPromise13NothingBehindLogAnswers(t *testing.T) {
	check := func(what string, b []byte) {
		t.Helper()
		if behind := b[len(b):cap(b)]; !bytes.Equal(behind, make([]byte, len(behind))) {
			t.Fatalf("%s: bytes behind the length: %q", what, behind)
		}
	}
	row := bytes.Repeat([]byte{7}, 400)
	for _, at := range []int{0, 57, 58, 59, 64} {
		for many := range 150 {
			b, _ := impl.LogPieces(at, row[:many])
			check("LogPieces", b)
		}
	}
	for _, records := range someLogs() {
		b, _ := impl.LogOf(records)
		check("LogOf", b)
		for cut := range len(b) + 1 {
			list, _, _ := impl.ReadLog(b[:cut])
			for _, record := range list {
				check("ReadLog", record)
			}
			for _, record := range list[len(list):cap(list)] {
				if cap(record) != 0 {
					t.Fatalf("a record behind the length: %q", record)
				}
			}
		}
	}
}

func TestPromise13NothingBehindLengthsOfLogs(t *testing.T) {
	row := []byte("abcdefgh")
	for many := range row {
		if b, ok := impl.LogPieces(0, row[:many]); !ok || !bytes.Equal(b, plainPiece(impl.PieceFull, []byte("abcdefgh")[:many])) {
			t.Errorf("LogPieces = %q, %v", b, ok)
		}
	}
	list := recordsOf(slices.Repeat([]int{1}, 70)...)
	if b, ok := impl.LogOf(list[:60]); !ok || !bytes.Equal(b, plainOf(recordsOf(slices.Repeat([]int{1}, 60)...))) {
		t.Errorf("LogOf of 60 records with more behind: %v", ok)
	}
	log := plainOf(fullLog(t, 0))
	room := append(log, plainPieces(len(log), []byte("x"))...)
	wantLog(t, "a log with more behind", room[:impl.MaxLog], fullLog(t, 0), impl.MaxLog)
}
