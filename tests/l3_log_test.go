package tests

import (
	"bytes"
	"encoding/binary"
	"hash/crc32"
	"math/rand"
	"slices"
	"testing"

	"loop.example/g00150/impl"
)

// plainPiece writes a piece down without asking whether it may stand there.
func plainPiece(kind int, data []byte) []byte {
	sum := crc32.Checksum(append([]byte{byte(kind)}, data...), crc32.MakeTable(crc32.Castagnoli))
	b := binary.BigEndian.AppendUint32(nil, sum)
	return append(append(b, byte(len(data)), byte(kind)), data...)
}

// plainPieces cuts the record first and gives the pieces their kinds behind that.
func plainPieces(at int, record []byte) []byte {
	var out []byte
	for (at+len(out))%impl.LogBlock > impl.LogBlock-impl.LogHead {
		out = append(out, 0)
	}
	room := impl.LogBlock - (at+len(out))%impl.LogBlock - impl.LogHead
	cuts := [][]byte{record}
	if len(record) > room {
		cuts = append([][]byte{record[:room]}, slices.Collect(slices.Chunk(record[room:], impl.LogBlock-impl.LogHead))...)
	}
	for i, cut := range cuts {
		kind := impl.PieceMiddle
		switch {
		case len(cuts) == 1:
			kind = impl.PieceFull
		case i == 0:
			kind = impl.PieceFirst
		case i == len(cuts)-1:
			kind = impl.PieceLast
		}
		out = append(out, plainPiece(kind, cut)...)
	}
	return out
}

// plainLog is the log of records, and where each of them ends.
func plainLog(records [][]byte) ([]byte, []int) {
	var log []byte
	var ends []int
	for _, record := range records {
		log = append(log, plainPieces(len(log), record)...)
		ends = append(ends, len(log))
	}
	return log, ends
}

// bytesOf is a record of so many bytes, none of them alike to the next one.
func bytesOf(many int, from int) []byte {
	b := make([]byte, many)
	for i := range b {
		b[i] = byte(from + 37*i)
	}
	return b
}

func recordsOf(sizes ...int) [][]byte {
	var list [][]byte
	for i, many := range sizes {
		list = append(list, bytesOf(many, 11*i+1))
	}
	return list
}

// someLogs have each kind of piece, noughts of each length, and records of none.
func someLogs() [][][]byte {
	logs := [][][]byte{
		nil,
		recordsOf(0),
		recordsOf(1),
		recordsOf(58),
		recordsOf(59),
		recordsOf(2, 60),
		recordsOf(116, 117, 0, 0, 5),
		recordsOf(52, 0, 3),
		recordsOf(52, 1, 3),
		recordsOf(52, 70, 0),
		recordsOf(51, 1, 0, 2),
		recordsOf(51, 2, 0, 2),
		recordsOf(0, 0, 0, 0, 0, 0, 0, 0, 0, 0, 0, 0),
		recordsOf(200, 7, 0, 300, 44, 1),
	}
	for noughts := 1; noughts < impl.LogHead; noughts++ {
		logs = append(logs, recordsOf(58-noughts, 3, 0), recordsOf(58-noughts, 130, 9), recordsOf(58-noughts, 0, 58-6-noughts, 1))
	}
	return append(logs, [][]byte{make([]byte, 70), make([]byte, 3), make([]byte, 47), {}, {0}, bytes.Repeat([]byte{255}, 64)})
}

func wantLog(t *testing.T, what string, b []byte, want [][]byte, wantWhole int) {
	t.Helper()
	got, whole, ok := impl.ReadLog(b)
	if !ok || whole != wantWhole || !slices.EqualFunc(got, want, bytes.Equal) {
		t.Fatalf("%s: ReadLog tells %d records in %d bytes, %v, want %d in %d: %.60q", what, len(got), whole, ok, len(want), wantWhole, b)
	}
}

func TestPromise3LogsByBytes(t *testing.T) {
	for _, c := range []struct {
		records []string
		want    string
	}{
		{nil, ""},
		{[]string{""}, "\xa0\x16\xd0\x52\x00\x01"},
		{[]string{"a"}, string(plainPiece(impl.PieceFull, []byte("a")))},
		{[]string{"ab", ""}, string(plainPiece(1, []byte("ab"))) + string(plainPiece(1, nil))},
		{
			[]string{"12345678901234567890123456789012345678901234567890123456789"},
			string(plainPiece(2, []byte("1234567890123456789012345678901234567890123456789012345678"))) + string(plainPiece(4, []byte("9"))),
		},
		{
			[]string{"1234567890123456789012345678901234567890123456789012", "xyz"},
			string(plainPiece(1, []byte("1234567890123456789012345678901234567890123456789012"))) + string(plainPiece(2, nil)) + string(plainPiece(4, []byte("xyz"))),
		},
		{
			[]string{"12345678901234567890123456789012345678901234567890123", "xyz"},
			string(plainPiece(1, []byte("12345678901234567890123456789012345678901234567890123"))) + "\x00\x00\x00\x00\x00" + string(plainPiece(1, []byte("xyz"))),
		},
	} {
		var records [][]byte
		for _, s := range c.records {
			records = append(records, []byte(s))
		}
		b, ok := impl.LogOf(records)
		if !ok || string(b) != c.want {
			t.Errorf("LogOf(%q) = %q, %v, want %q", c.records, b, ok, c.want)
		}
		wantLog(t, "what LogOf tells", []byte(c.want), records, len(c.want))
	}
}

func TestPromise3RecordsComeBack(t *testing.T) {
	logs := someLogs()
	for many := range 200 {
		logs = append(logs, recordsOf(many), recordsOf(many, 0, many), recordsOf(3, many, 200-many))
	}
	logs = append(logs, recordsOf(impl.MaxRecord), recordsOf(impl.MaxRecord, 1, impl.MaxRecord, 0, impl.MaxRecord-1))
	for _, records := range logs {
		want, _ := plainLog(records)
		b, ok := impl.LogOf(records)
		if !ok || !bytes.Equal(b, want) {
			t.Fatalf("LogOf of %d records = %.80q, %v, want %.80q", len(records), b, ok, want)
		}
		wantLog(t, "a whole log", b, records, len(b))
	}
}

// wholeAhead is how many records end at or ahead of a place, and how many bytes they take.
func wholeAhead(ends []int, at int) (int, int) {
	many, whole := 0, 0
	for many < len(ends) && ends[many] <= at {
		whole = ends[many]
		many++
	}
	return many, whole
}

func TestPromise3LogCutAtEachByte(t *testing.T) {
	for _, records := range append(someLogs(), recordsOf(impl.MaxRecord, 9, 0, 1200)) {
		log, ends := plainLog(records)
		for cut := range len(log) + 1 {
			many, whole := wholeAhead(ends, cut)
			wantLog(t, "a cut log", log[:cut], records[:many], whole)
			wantLog(t, "a cut log", slices.Clone(log[:cut]), records[:many], whole)
		}
	}
}

func TestPromise3PiecesAtEachPlace(t *testing.T) {
	places := []int{impl.MaxLog - 1, impl.MaxLog, 19968, 19967, 19962, 19963}
	for at := range 3 * impl.LogBlock {
		places = append(places, at)
	}
	sizes := []int{250, impl.MaxRecord - 1, impl.MaxRecord}
	for many := range 135 {
		sizes = append(sizes, many)
	}
	for _, at := range places {
		for _, many := range sizes {
			record := bytesOf(many, at)
			got, ok := impl.LogPieces(at, record)
			if want := plainPieces(at, record); !ok || !bytes.Equal(got, want) {
				t.Fatalf("LogPieces(%d, %d bytes) = %.80q, %v, want %.80q", at, many, got, ok, want)
			}
		}
	}
}

// Each row is told by hand: how many noughts, and how many bytes and which kind each piece has.
func TestPromise3PiecesAtTheEndOfABlock(t *testing.T) {
	type piece struct{ many, kind int }
	const full, first, middle, last = impl.PieceFull, impl.PieceFirst, impl.PieceMiddle, impl.PieceLast
	for _, c := range []struct {
		left, many, noughts int
		pieces              []piece
	}{
		{64, 0, 0, []piece{{0, full}}},
		{64, 58, 0, []piece{{58, full}}},
		{64, 59, 0, []piece{{58, first}, {1, last}}},
		{64, 116, 0, []piece{{58, first}, {58, last}}},
		{64, 117, 0, []piece{{58, first}, {58, middle}, {1, last}}},
		{8, 0, 0, []piece{{0, full}}},
		{8, 2, 0, []piece{{2, full}}},
		{8, 3, 0, []piece{{2, first}, {1, last}}},
		{7, 0, 0, []piece{{0, full}}},
		{7, 1, 0, []piece{{1, full}}},
		{7, 2, 0, []piece{{1, first}, {1, last}}},
		{7, 60, 0, []piece{{1, first}, {58, middle}, {1, last}}},
		{6, 0, 0, []piece{{0, full}}},
		{6, 1, 0, []piece{{0, first}, {1, last}}},
		{6, 58, 0, []piece{{0, first}, {58, last}}},
		{6, 59, 0, []piece{{0, first}, {58, middle}, {1, last}}},
		{6, 174, 0, []piece{{0, first}, {58, middle}, {58, middle}, {58, last}}},
		{5, 0, 5, []piece{{0, full}}},
		{5, 1, 5, []piece{{1, full}}},
		{5, 58, 5, []piece{{58, full}}},
		{5, 59, 5, []piece{{58, first}, {1, last}}},
		{4, 2, 4, []piece{{2, full}}},
		{3, 2, 3, []piece{{2, full}}},
		{2, 2, 2, []piece{{2, full}}},
		{1, 0, 1, []piece{{0, full}}},
		{1, 58, 1, []piece{{58, full}}},
		{1, 59, 1, []piece{{58, first}, {1, last}}},
	} {
		record := bytesOf(c.many, 5)
		want := make([]byte, c.noughts)
		begin := 0
		for _, p := range c.pieces {
			want = append(want, plainPiece(p.kind, record[begin:begin+p.many])...)
			begin += p.many
		}
		for _, block := range []int{1, 2, 100, 312} {
			at := block*impl.LogBlock - c.left
			if got, ok := impl.LogPieces(at, record); !ok || !bytes.Equal(got, want) {
				t.Errorf("LogPieces(%d, %d bytes) = %q, %v, want %q", at, c.many, got, ok, want)
			}
		}
	}
}

// What lies behind a log's end by LogPieces is what LogOf would have put there.
func TestPromise3PiecesMakeALog(t *testing.T) {
	for _, records := range someLogs() {
		var log []byte
		for i, record := range records {
			pieces, ok := impl.LogPieces(len(log), record)
			if !ok {
				t.Fatal("refused")
			}
			log = append(log, pieces...)
			wantLog(t, "piece by piece", log, records[:i+1], len(log))
		}
		if b, _ := impl.LogOf(records); !bytes.Equal(b, log) {
			t.Errorf("LogOf = %q, want %q", b, log)
		}
	}
}

// kindsRead follows the document: the records that a row of kinds makes, by the pieces that each takes.
func kindsRead(kinds []int) [][2]int {
	var out [][2]int
	for at := 0; at < len(kinds); {
		begin := at
		switch kinds[at] {
		case impl.PieceFull:
		case impl.PieceFirst:
			at++
			for at < len(kinds) && kinds[at] == impl.PieceMiddle {
				at++
			}
			if at == len(kinds) || kinds[at] != impl.PieceLast {
				return out
			}
		default:
			return out
		}
		at++
		out = append(out, [2]int{begin, at})
	}
	return out
}

// Each row of up to five kinds, in pieces that fill their block, in short ones, and in ones of no bytes.
func TestPromise3EachRowOfKinds(t *testing.T) {
	rows := [][]int{nil}
	for i := 0; i < len(rows); i++ {
		if len(rows[i]) < 5 {
			for kind := range 6 {
				rows = append(rows, append(slices.Clone(rows[i]), kind))
			}
		}
		for _, many := range []int{0, 2, 26, 58} {
			checkKinds(t, rows[i], many)
		}
	}
	for _, kind := range []int{0, 5, 6, 64, 127, 128, 254, 255} {
		checkKinds(t, []int{impl.PieceFull, kind, impl.PieceFull}, 3)
		checkKinds(t, []int{impl.PieceFirst, kind, impl.PieceLast}, 3)
		checkKinds(t, []int{kind}, 0)
	}
}

func checkKinds(t *testing.T, kinds []int, many int) {
	t.Helper()
	var log []byte
	ends := []int{0}
	for i, kind := range kinds {
		log = append(log, plainPiece(kind, bytesOf(many, i))...)
		ends = append(ends, len(log))
	}
	var want [][]byte
	whole := 0
	for _, span := range kindsRead(kinds) {
		var record []byte
		for i := span[0]; i < span[1]; i++ {
			record = append(record, bytesOf(many, i)...)
		}
		want = append(want, record)
		whole = ends[span[1]]
	}
	wantLog(t, "a row of kinds", log, want, whole)
}

func TestPromise3ChangedBytes(t *testing.T) {
	for _, records := range someLogs() {
		log, ends := plainLog(records)
		for i := range log {
			many, whole := wholeAhead(ends, i)
			for change := 1; change < 256; change++ {
				changed := slices.Clone(log)
				changed[i] ^= byte(change)
				wantLog(t, "a changed byte", changed, records[:many], whole)
			}
		}
	}
}

func TestPromise3BytesLeftOutOrPutIn(t *testing.T) {
	for _, records := range [][][]byte{recordsOf(2, 60, 3), recordsOf(52, 70, 1), recordsOf(55, 9, 0, 100)} {
		log, ends := plainLog(records)
		for i := range log {
			many, whole := wholeAhead(ends, i)
			for _, changed := range [][]byte{slices.Delete(slices.Clone(log), i, i+1), slices.Insert(slices.Clone(log), i, log[i]+1)} {
				got, n, ok := impl.ReadLog(changed)
				if !ok || n < whole || len(got) < many || !slices.EqualFunc(got[:many], records[:many], bytes.Equal) {
					t.Errorf("ReadLog = %d records, %d, %v", len(got), n, ok)
				}
				wantLog(t, "a shifted log", changed, plainRead(changed).records, plainRead(changed).whole)
			}
		}
	}
}

func TestPromise3NoughtsBehindTheLastRecord(t *testing.T) {
	for noughts := 1; noughts < impl.LogHead; noughts++ {
		records := recordsOf(58 - noughts)
		log, ends := plainLog(records)
		for many := range noughts + 1 {
			b := append(slices.Clone(log), make([]byte, many)...)
			wantLog(t, "noughts at the end", b, records, ends[0])
		}
		b := append(slices.Clone(log), make([]byte, noughts)...)
		wantLog(t, "a torn head behind noughts", append(b, 1, 2, 3), records, ends[0])
		b = append(b, plainPiece(impl.PieceFull, nil)...)
		wantLog(t, "a record behind noughts", b, [][]byte{records[0], nil}, len(b))
		for i := range noughts {
			changed := slices.Clone(b)
			changed[len(log)+i] = 1
			wantLog(t, "a nought that is none", changed, records, ends[0])
		}
	}
	for many := range 200 {
		wantLog(t, "noughts alone", make([]byte, many), nil, 0)
	}
}

// Noughts stand only where fewer than LogHead bytes are left; elsewhere they are no piece, and a piece is no nought.
func TestPromise3NoughtsInTheWrongPlace(t *testing.T) {
	for left := impl.LogHead; left <= 12; left++ {
		records := recordsOf(58 - left)
		log, ends := plainLog(records)
		b := append(append(slices.Clone(log), make([]byte, left)...), plainPiece(impl.PieceFull, []byte("x"))...)
		wantLog(t, "noughts for a piece", b, records, ends[0])
	}
	for left := 1; left < impl.LogHead; left++ {
		records := recordsOf(58 - left)
		log, ends := plainLog(records)
		b := append(slices.Clone(log), plainPiece(impl.PieceFull, []byte("x"))...)
		wantLog(t, "a piece for noughts", b, records, ends[0])
	}
}

func TestPromise3PiecesStayInTheirBlock(t *testing.T) {
	for begin := 0; begin <= 58; begin += 2 {
		var ahead []byte
		var records [][]byte
		if begin >= impl.LogHead {
			records = recordsOf(begin - impl.LogHead)
			ahead, _ = plainLog(records)
		} else if begin > 0 {
			continue
		}
		room := impl.LogBlock - begin - impl.LogHead
		for many := max(0, room-2); many <= room+70; many++ {
			data := bytesOf(many, begin)
			b := append(slices.Clone(ahead), plainPiece(impl.PieceFull, data)...)
			b = append(b, make([]byte, 90)...)
			if many <= room {
				wantLog(t, "a piece that fits", b, append(slices.Clone(records), data), begin+impl.LogHead+many)
			} else {
				wantLog(t, "a piece that does not fit", b, records, begin)
			}
		}
	}
	for _, many := range []int{59, 64, 128, 249, 250, 255} {
		wantLog(t, "a long piece", append(plainPiece(impl.PieceFull, make([]byte, many)), make([]byte, 300)...), nil, 0)
	}
}

// The document does not end the reading at a piece that is shorter than its block lets it, nor at a long record.
func TestPromise3PiecesThatAreShort(t *testing.T) {
	b := slices.Concat(plainPiece(impl.PieceFirst, []byte("ab")), plainPiece(impl.PieceMiddle, nil), plainPiece(impl.PieceMiddle, []byte("c")), plainPiece(impl.PieceLast, nil))
	wantLog(t, "short pieces", b, [][]byte{[]byte("abc")}, len(b))
	b = slices.Concat(plainPiece(impl.PieceFirst, bytesOf(54, 1)), []byte{0, 0, 0, 0}, plainPiece(impl.PieceLast, []byte("z")))
	wantLog(t, "noughts within a record", b, [][]byte{append(bytesOf(54, 1), 'z')}, len(b))
	b[61] = 1
	wantLog(t, "no noughts within a record", b, nil, 0)
	long := plainPieces(0, bytesOf(impl.MaxRecord+1, 1))
	wantLog(t, "a long record", long, [][]byte{bytesOf(impl.MaxRecord+1, 1)}, len(long))
}

func TestPromise3AsManyRecordsAsALogHolds(t *testing.T) {
	var log []byte
	many := 0
	for {
		pieces, ok := impl.LogPieces(len(log), nil)
		if !ok || len(pieces) == 0 || len(log)+len(pieces) > impl.MaxLog {
			break
		}
		log = append(log, pieces...)
		many++
	}
	if many != 3125 {
		t.Errorf("%d records without bytes", many)
	}
	wantLog(t, "many records", log, make([][]byte, many), len(log))
}

type logRead struct {
	records [][]byte
	whole   int
}

// plainRead reads a log by looking at each place for a piece, and knows nothing of how one is torn.
func plainRead(b []byte) logRead {
	var out logRead
	var open []byte
	inside := false
	for at := 0; at < len(b); {
		end := (at/impl.LogBlock + 1) * impl.LogBlock
		if end-at < impl.LogHead {
			if end > len(b) || bytes.Count(b[at:end], []byte{0}) != end-at {
				return out
			}
			at = end
			continue
		}
		data, kind := pieceAt(b[at:min(end, len(b))])
		opens := kind == impl.PieceFull || kind == impl.PieceFirst
		if kind == 0 || opens == inside {
			return out
		}
		if opens {
			open = nil
		}
		open = append(slices.Clone(open), data...)
		at += impl.LogHead + len(data)
		inside = kind == impl.PieceFirst || kind == impl.PieceMiddle
		if !inside {
			out.records = append(out.records, open)
			out.whole = at
		}
	}
	return out
}

// pieceAt finds the piece at the front of b by writing each that could be there.
func pieceAt(b []byte) ([]byte, int) {
	for kind := impl.PieceFull; kind <= impl.PieceLast; kind++ {
		for end := impl.LogHead; end <= len(b); end++ {
			data := b[impl.LogHead:end]
			if b[4] == byte(len(data)) && b[5] == byte(kind) && bytes.HasPrefix(b, plainPiece(kind, data)) {
				return data, kind
			}
		}
	}
	return nil, 0
}

// Rows of pieces, noughts and other bytes as they come, held against the plain reader.
func TestPromise3LogsOfAllKinds(t *testing.T) {
	draw := rand.New(rand.NewSource(3))
	met, torn := 0, 0
	for range 4000 {
		log := drawLog(draw)
		want := plainRead(log)
		wantLog(t, "a drawn log", log, want.records, want.whole)
		met += len(want.records)
		if want.whole < len(log) {
			torn++
		}
	}
	if met < 4000 || torn < 1000 || torn > 3900 {
		t.Errorf("the draws are poor: %d records, %d torn", met, torn)
	}
}

func drawLog(draw *rand.Rand) []byte {
	var log []byte
	inside := false
	for range draw.Intn(12) {
		left := impl.LogBlock - len(log)%impl.LogBlock
		if left < impl.LogHead {
			log = append(log, make([]byte, left)...)
			left = impl.LogBlock
		}
		many := left - impl.LogHead
		if draw.Intn(2) == 0 {
			many = draw.Intn(many + 1)
		}
		kinds := []int{impl.PieceFull, impl.PieceFirst}
		if inside {
			kinds = []int{impl.PieceMiddle, impl.PieceLast}
		}
		kind := kinds[draw.Intn(2)]
		if draw.Intn(40) == 0 {
			kind = draw.Intn(6)
		}
		inside = kind == impl.PieceFirst || kind == impl.PieceMiddle
		log = append(log, plainPiece(kind, bytesOf(many, draw.Intn(256)))...)
	}
	switch draw.Intn(4) {
	case 0:
		log = log[:draw.Intn(len(log)+1)]
	case 1:
		if len(log) > 0 {
			log[draw.Intn(len(log))] = byte(draw.Intn(256))
		}
	}
	return log
}
