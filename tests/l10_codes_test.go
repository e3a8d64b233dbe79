package tests

import (
	"slices"
	"strconv"
	"strings"
	"testing"

	"loop.example/g00150/impl"
)

// laid puts a piece behind a log, with noughts where its block has no room for a head.
func laid(log []byte, kind int, data []byte) []byte {
	for len(log)%impl.LogBlock > impl.LogBlock-impl.LogHead {
		log = append(log, 0)
	}
	return append(log, plainPiece(kind, data)...)
}

// laidRest puts what is left of a record behind a log, as long as the blocks let it.
func laidRest(log []byte, rest []byte) []byte {
	for {
		room := impl.LogBlock - impl.LogHead - len(log)%impl.LogBlock
		if room < 0 {
			room = impl.LogBlock - impl.LogHead
		}
		if len(rest) <= room {
			return laid(log, impl.PieceLast, rest)
		}
		log, rest = laid(log, impl.PieceMiddle, rest[:room]), rest[room:]
	}
}

// stretched is a log of one record with just so many bytes, by pieces that it does
// not need; false where it can't have so many.
func stretched(record []byte, size int) ([]byte, bool) {
	for front := range min(len(record), impl.LogBlock-impl.LogHead) + 1 {
		log := laid(nil, impl.PieceFirst, record[:front])
		for len(log) < size-2*len(record)-4*impl.LogBlock {
			log = laid(log, impl.PieceMiddle, nil)
		}
		for len(log) < size {
			if whole := laidRest(slices.Clone(log), record[front:]); len(whole) == size {
				return whole, true
			}
			log = laid(log, impl.PieceMiddle, nil)
		}
	}
	return nil, false
}

func TestPromise10LogsInManyPieces(t *testing.T) {
	l := []impl.Entry{putOf("k", 1, 1)}
	seen := 0
	for _, size := range []int{50, 100, 640, 5000, 12345, impl.MaxLog - 1, impl.MaxLog} {
		log, ok := stretched(plainBatch(l...), size)
		if !ok {
			continue
		}
		seen++
		f := withFile(storeFiles(1, nil, nil, nil), "log-1", log)
		checkOpen(t, "a stretched log", f, impl.Store{Files: f, Version: versionOf(2, 1, 0), Mem: l})
	}
	if seen < 4 {
		t.Errorf("%d logs are stretched", seen)
	}
}

func TestPromise10BatchAtMaxMem(t *testing.T) {
	for _, mem := range []int{0, 1, 50, 51, 55, 58, 59, 60} {
		for many := 1; many <= impl.MaxBatch; many++ {
			code := impl.StoreOk
			if mem+many > 60 {
				code = impl.StoreMem
			}
			s := storeWith(t, putsFrom("m", mem, 200), [][]impl.Entry{putsFrom("t", 3, 100)})
			next := checkDo(t, "so many", s, batchOf(putsFrom("k", many, 50)...), code)
			if code == impl.StoreOk && len(next.Mem) != mem+many {
				t.Errorf("%d and %d are %d", mem, many, len(next.Mem))
			}
		}
	}
}

func TestPromise10BatchesOfOneToMaxBatch(t *testing.T) {
	for many := range impl.MaxBatch + 3 {
		s := newStore(t, 5000)
		d := batchOf(putsFrom("k", many, 50)...)
		if many >= 1 && many <= 10 {
			checkDo(t, "so many changes", s, d, impl.StoreOk)
			continue
		}
		checkRefusedDo(t, "so many changes", s, d)
	}
}

// checkRefusedDo holds that a Do is not good: a good store stays as it was then.
func checkRefusedDo(t *testing.T, what string, s impl.Store, d impl.Do) {
	t.Helper()
	if ops, code := impl.OpsOf(s, d); len(ops) != 0 || code != impl.StoreBad {
		t.Errorf("%s: OpsOf(%v) = %v, %d, want none and StoreBad", what, d, ops, code)
	}
	if next, code := impl.DoStore(s, d); !sameStore(next, s) || code != impl.StoreBad {
		t.Errorf("%s: DoStore(%v) = %v, %d, want the same and StoreBad", what, d, next, code)
	}
	for _, ops := range []int{0, 1, 1000} {
		if next, code := impl.CutStore(s, d, ops, nil); !sameStore(next, impl.Store{}) || code != impl.StoreBad {
			t.Errorf("%s: CutStore(%v, %d) = %v, %d, want zero and StoreBad", what, d, ops, next, code)
		}
	}
	next, codes, ok := impl.PlayStore(s, []impl.Do{d, d})
	if !ok || !sameStore(next, s) || !slices.Equal(codes, []int{impl.StoreBad, impl.StoreBad}) {
		t.Errorf("%s: PlayStore(%v) = %v, %v, %v, want the same", what, d, next, codes, ok)
	}
}

// longChanges are a batch of just so many bytes; the first Seq is 1.
func longChanges(t *testing.T, size int) []impl.Entry {
	t.Helper()
	var l []impl.Entry
	for i := range impl.MaxBatch {
		key := string([]byte{'a' + byte(i)}) + strings.Repeat("k", impl.MaxKeyBytes-1)
		l = append(l, impl.Entry{Key: key, Seq: 1 + i, Kind: impl.KindPut, Agg: fullOf(impl.MaxCount, -impl.MaxNumber, impl.MaxNumber, slices.Repeat([]int{impl.MaxCount}, impl.Buckets)...)})
	}
	for i := 0; len(plainBatch(l...)) > size; i = (i + 1) % len(l) {
		// A key of fewer than 128 bytes has a shorter length too.
		if len(l[i].Key) > 128 {
			l[i].Key = l[i].Key[:len(l[i].Key)-1]
		}
	}
	if len(plainBatch(l...)) != size {
		t.Fatalf("the batch has %d bytes, want %d", len(plainBatch(l...)), size)
	}
	return l
}

func TestPromise10BatchAtMaxRecord(t *testing.T) {
	for size := 1995; size <= 2005; size++ {
		code := impl.StoreOk
		if size > 2000 {
			code = impl.StoreBig
		}
		checkDo(t, "so many bytes", newStore(t, 5000), batchOf(longChanges(t, size)...), code)
	}
}

func TestPromise10BatchAtMaxLog(t *testing.T) {
	ends := map[int]int{}
	for at := impl.MaxLog - 300; at <= impl.MaxLog; at++ {
		log, ok := stretched(plainBatch(putOf("k", 1, 1)), at)
		if !ok {
			continue
		}
		s := mustOpen(t, withFile(storeFiles(1, nil, nil, nil), "log-1", log))
		for _, d := range []impl.Do{batchOf(dropOf("k", 0)), batchOf(putOf("key", 0, 5)), batchOf(putsFrom("k", 9, 20)...)} {
			code := planOf(s, d).code
			checkDo(t, "a long log", s, d, code)
			ends[at+len(plainPieces(at, plainBatchOn(s, d)))]++
			if (at+len(plainPieces(at, plainBatchOn(s, d))) <= impl.MaxLog) != (code == impl.StoreOk) {
				t.Errorf("a log that ends at %d tells %d", at, code)
			}
		}
	}
	for _, end := range []int{impl.MaxLog - 1, impl.MaxLog, impl.MaxLog + 1, impl.MaxLog + 2} {
		if ends[end] == 0 {
			t.Errorf("no log would end at %d", end)
		}
	}
}

// plainBatchOn are the bytes of a batch on a store.
func plainBatchOn(s impl.Store, d impl.Do) []byte {
	var l []impl.Entry
	for i, c := range d.Changes {
		l = append(l, impl.Entry{Key: c.Key, Seq: greatestSeq(s) + 1 + i, Kind: c.Kind, Agg: c.Agg})
	}
	return plainBatch(l...)
}

// No entry may have a Seq above the greatest: what can't be opened again is too big.
func TestPromise10BatchAtTheGreatestSeq(t *testing.T) {
	for _, c := range []struct {
		seq  int
		many int
		code int
	}{
		{topSeq - 10, 10, impl.StoreOk}, {topSeq - 9, 10, impl.StoreBig}, {topSeq - 1, 1, impl.StoreOk}, {topSeq - 1, 2, impl.StoreBig}, {topSeq, 1, impl.StoreBig},
	} {
		d := batchOf(putsFrom("k", c.many, 20)...)
		s := mustOpen(t, storeFiles(1, []impl.Edit{{Next: 2, Log: 1, Seq: c.seq}}, nil, nil))
		checkDo(t, "behind the version's", s, d, c.code)
		s = mustOpen(t, storeFiles(1, nil, [][]impl.Entry{{putOf("k", c.seq, 1)}}, nil))
		checkDo(t, "behind Mem's", s, d, c.code)
		checkDo(t, "flushed", s, flushDo(), impl.StoreOk)
	}
}

func TestPromise10FlushOfNothing(t *testing.T) {
	checkDo(t, "a new store", newStore(t, 100), flushDo(), impl.StoreNone)
	checkDo(t, "with tables", storeWith(t, nil, [][]impl.Entry{putsFrom("k", 3, 9)}), flushDo(), impl.StoreNone)
	s := mustDo(t, newStore(t, 500), batchOf(putOf("k", 0, 1)), flushDo())
	checkDo(t, "flushed already", s, flushDo(), impl.StoreNone)
	checkDo(t, "one alone", mustDo(t, s, batchOf(dropOf("k", 0))), flushDo(), impl.StoreOk)
}

func TestPromise10FlushAtMaxTable(t *testing.T) {
	for size := impl.MaxTable - 3; size <= impl.MaxTable+3; size++ {
		code := impl.StoreOk
		if size > 8000 {
			code = impl.StoreBig
		}
		checkDo(t, "so many bytes", storeWith(t, longEntries(t, size)), flushDo(), code)
	}
	full := storeWith(t, putsFrom("k", impl.MaxMem, 100))
	if next := checkDo(t, "MaxMem", full, flushDo(), impl.StoreOk); next.Version.Levels[0][0].Many != 60 {
		t.Errorf("behind it: %v", next.Version)
	}
}

// manyTables are so many, each of one key that is above those ahead.
func manyTables(head string, many int, seq int) [][]impl.Entry {
	var out [][]impl.Entry
	for i := range many {
		out = append(out, []impl.Entry{putOf(head+string([]byte{'a' + byte(i)}), seq+i, i)})
	}
	return out
}

func TestPromise10FlushAtTwelveTables(t *testing.T) {
	for _, many := range []int{0, 1, 10, 11, 12} {
		code := impl.StoreOk
		if many == 12 {
			code = impl.StoreBig
		}
		s := storeWith(t, []impl.Entry{putOf("k", 900, 1)}, manyTables("k", many, 100), manyTables("k", 12, 200), manyTables("k", 12, 300))
		next := checkDo(t, "so many tables", s, flushDo(), code)
		if code == impl.StoreOk && len(next.Version.Levels[0]) != many+1 {
			t.Errorf("behind %d tables: %v", many, next.Version)
		}
	}
}

func TestPromise10ManifestAtMaxLog(t *testing.T) {
	table := putsFrom("k", 3, 9)
	edit := impl.Edit{Next: 3, Log: 1, Seq: 9, Adds: []impl.Add{addFor(0, 2, table)}}
	ends := map[int]int{}
	for at := impl.MaxLog - 120; at <= impl.MaxLog; at++ {
		log, ok := stretched(plainEditBytes(edit), at)
		if !ok {
			continue
		}
		for _, key := range []string{"k", "longer", strings.Repeat("long", 20)} {
			f := storeFiles(1, nil, [][]impl.Entry{{putOf(key, 20, 1)}}, map[int][]impl.Entry{2: table})
			s := mustOpen(t, withFile(f, "manifest", log))
			told := impl.Edit{Next: 5, Log: 4, Seq: 20, Adds: []impl.Add{addOf(0, 3, key, key)}}
			end := at + len(plainPieces(at, plainEditBytes(told)))
			ends[end]++
			checkAtEnd(t, "flush", s, flushDo(), end)
		}
		f := storeFiles(1, nil, nil, map[int][]impl.Entry{2: table})
		s := mustOpen(t, withFile(f, "manifest", log))
		told := impl.Edit{Next: 4, Log: 1, Seq: 9, Drops: []int{2}, Adds: []impl.Add{addFor(1, 3, table)}}
		end := at + len(plainPieces(at, plainEditBytes(told)))
		ends[-end]++
		checkAtEnd(t, "pack", s, packDo(0), end)
	}
	for _, end := range []int{impl.MaxLog, impl.MaxLog + 1, -impl.MaxLog, -impl.MaxLog - 1} {
		if ends[end] == 0 {
			t.Errorf("no manifest would end at %d", end)
		}
	}
}

func checkAtEnd(t *testing.T, what string, s impl.Store, d impl.Do, end int) {
	t.Helper()
	code := impl.StoreOk
	if end > 20000 {
		code = impl.StoreBig
	}
	next := checkDo(t, what, s, d, code)
	if code == impl.StoreOk && len(bytesIn(next.Files, "manifest")) != end {
		t.Errorf("%s: the manifest has %d bytes, want %d", what, len(bytesIn(next.Files, "manifest")), end)
	}
}

// Beyond the greatest Next the version would not be good.
func TestPromise10AtTheGreatestNext(t *testing.T) {
	for next := topFile - 4; next <= topFile; next++ {
		code := impl.StoreOk
		if next+2 > topFile {
			code = impl.StoreBig
		}
		s := mustOpen(t, storeFiles(1, []impl.Edit{{Next: next, Log: 1}}, [][]impl.Entry{{putOf("k", 5, 1)}}, nil))
		checkDo(t, "flush", s, flushDo(), code)
		for _, many := range []int{20, 21, 41, 61, 81} {
			table := putsFrom("k", many, 100)
			edits := []impl.Edit{{Next: 3, Log: 1, Seq: 100, Adds: []impl.Add{addFor(0, 2, table)}}, {Next: next, Log: 1, Seq: 100}}
			s := mustOpen(t, storeFiles(1, edits, nil, map[int][]impl.Entry{2: table}))
			code := impl.StoreOk
			if next+(many+19)/20 > topFile {
				code = impl.StoreBig
			}
			checkDo(t, "pack", s, packDo(0), code)
		}
	}
}

func TestPromise10PackOfNothing(t *testing.T) {
	for level := range 2 {
		checkDo(t, "a new store", newStore(t, 100), packDo(level), impl.StoreNone)
		checkDo(t, "Mem alone", storeWith(t, putsFrom("k", 3, 9)), packDo(level), impl.StoreNone)
		levels := [][][]impl.Entry{{putsFrom("k", 3, 9)}, {putsFrom("k", 3, 19)}, {putsFrom("k", 3, 29)}}
		levels[level] = nil
		checkDo(t, "the others alone", storeWith(t, putsFrom("k", 3, 99), levels...), packDo(level), impl.StoreNone)
	}
}

// joinsTimes has so many entries, of as many keys as one table may have.
func joinsTimes(many int, seq int) []impl.Entry {
	var out []impl.Entry
	for i := range many {
		out = append(out, joinOf("k"+strconv.Itoa(100+i), seq-i, i))
	}
	return out
}

func TestPromise10PackAtThreeHundred(t *testing.T) {
	for _, c := range []struct {
		what  string
		upper []int
		lower []int
		code  int
	}{
		{"299", []int{100, 100, 99}, nil, impl.StoreOk},
		{"300", []int{100, 100, 100}, nil, impl.StoreOk},
		{"301", []int{100, 100, 100, 1}, nil, impl.StoreBig},
		{"300 with the level below", []int{100, 100}, []int{100}, impl.StoreOk},
		{"301 with the level below", []int{100, 100, 1}, []int{100}, impl.StoreBig},
		{"400", []int{100, 100, 100, 100}, nil, impl.StoreBig},
	} {
		var levels [2][][]impl.Entry
		seq := 1000
		for i, level := range [][]int{c.upper, c.lower} {
			for _, many := range level {
				levels[i] = append(levels[i], joinsTimes(many, seq))
				seq += 1000
			}
		}
		s := storeWith(t, nil, levels[0], levels[1])
		checkDo(t, c.what, s, packDo(0), c.code)
	}
}

func TestPromise10PackAtTwelveFiles(t *testing.T) {
	for _, c := range []struct {
		upper int
		lower int
		code  int
	}{
		{12, 0, impl.StoreOk}, {12, 1, impl.StoreBig}, {11, 1, impl.StoreOk}, {11, 2, impl.StoreBig}, {1, 11, impl.StoreOk}, {1, 12, impl.StoreBig}, {6, 6, impl.StoreOk}, {6, 7, impl.StoreBig},
	} {
		upper := append(manyTables("m", c.upper-1, 900), between("a", "z", 990))
		s := storeWith(t, nil, upper, manyTables("k", c.lower, 500))
		checkDo(t, "level 0", s, packDo(0), c.code)
		if c.upper == 1 {
			s := storeWith(t, nil, nil, [][]impl.Entry{between("a", "z", 990)}, manyTables("k", c.lower, 500))
			checkDo(t, "level 1", s, packDo(1), c.code)
		}
	}
	// Those that do not overlap do not count.
	s := storeWith(t, nil, manyTables("m", 12, 900), manyTables("k", 6, 500))
	checkDo(t, "none below overlaps", s, packDo(0), impl.StoreOk)
}

// The level below may have no more than 12.
func TestPromise10PackIntoAFullLevel(t *testing.T) {
	for _, beside := range []int{10, 11, 12} {
		for _, many := range []int{1, 20, 21, 40, 41} {
			code := impl.StoreOk
			if beside+(many+19)/20 > 12 {
				code = impl.StoreBig
			}
			for level := range 2 {
				levels := make([][][]impl.Entry, 3)
				levels[level], levels[level+1] = [][]impl.Entry{putsFrom("z", many, 900)}, manyTables("k", beside, 500)
				checkDo(t, "a full level", storeWith(t, nil, levels...), packDo(level), code)
			}
		}
	}
}

// An edit that is longer than a record may be can't be told.
func TestPromise10PackAtMaxRecord(t *testing.T) {
	seen := map[int]int{}
	for last := 130; last <= impl.MaxKeyBytes; last++ {
		var tables [][]impl.Entry
		for i := range 4 {
			var l []impl.Entry
			for j := range 35 {
				n := 35*i + j
				key := string([]byte{'a' + byte(n/20), 'a' + byte(n%20)}) + strings.Repeat("k", 137)
				if n == 139 {
					key = "h" + strings.Repeat("z", last-1)
				}
				l = append(l, dropOf(key, 1000-n))
			}
			tables = append(tables, l)
		}
		s := storeWith(t, nil, tables, nil, [][]impl.Entry{between("A", "z", 2)})
		plan := planOf(s, packDo(0))
		checkDo(t, "a long edit", s, packDo(0), plan.code)
		edit := impl.Edit{Next: 14, Log: 1, Seq: 1000, Drops: []int{2, 3, 4, 5}}
		all := slices.Concat(tables...)
		for i := range 7 {
			edit.Adds = append(edit.Adds, addFor(1, 7+i, all[20*i:20*i+20]))
		}
		size := len(plainEditBytes(edit))
		seen[size] = plan.code + 1
		if (size > 2000) != (plan.code == impl.StoreBig) {
			t.Errorf("an edit of %d bytes tells %d", size, plan.code)
		}
	}
	if seen[2000] != impl.StoreOk+1 || seen[2001] != impl.StoreBig+1 {
		t.Errorf("the edits are of %v bytes", seen)
	}
}

// mostUsed is the least quota by which no operation is refused.
func mostUsed(t *testing.T, s impl.Store, ops []impl.FileOp) int {
	t.Helper()
	most, _ := impl.UsedBytes(s.Files)
	for i := range ops {
		f, code := runOps(s.Files, ops[:i+1])
		used, ok := impl.UsedBytes(f)
		if code != impl.FileOk || !ok {
			t.Fatalf("the operation %d of %v tells %d", i, ops, code)
		}
		most = max(most, used)
	}
	return most
}

func ordinaryDos() []impl.Do {
	return []impl.Do{batchOf(dropOf("k", 0)), batchOf(putOf("k", 0, 1), joinOf("l", 0, 2), dropOf("m", 0)), flushDo(), packDo(0), packDo(1)}
}

func TestPromise10QuotasThatAreJustEnough(t *testing.T) {
	for _, s := range []impl.Store{baseStore(), storeWith(t, putsFrom("m", 40, 900), [][]impl.Entry{putsFrom("k", 50, 100), putsFrom("k", 60, 200)}, [][]impl.Entry{putsFrom("a", 45, 300)})} {
		for _, d := range ordinaryDos() {
			ops, code := impl.OpsOf(s, d)
			if code != impl.StoreOk {
				t.Fatalf("OpsOf(%v) tells %d", d, code)
			}
			used, _ := impl.UsedBytes(s.Files)
			most := mostUsed(t, s, ops)
			for _, quota := range []int{most, most + 1, impl.MaxQuota} {
				s.Files.Quota = quota
				checkDo(t, "just enough", s, d, impl.StoreOk)
			}
			for _, quota := range []int{most - 1, most - 2, used, (used + most - 1) / 2} {
				s.Files.Quota = quota
				checkDo(t, "one byte less", s, d, impl.StoreFull)
			}
			s.Files.Quota = impl.MaxQuota
		}
	}
	for quota := range 40 {
		code := impl.StoreOk
		if quota < len(plainPieces(0, plainBatch(dropOf("k", 1)))) {
			code = impl.StoreFull
		}
		checkDo(t, "a new store", newStore(t, quota), batchOf(dropOf("k", 1)), code)
	}
}

func TestPromise10AtMaxFiles(t *testing.T) {
	for _, more := range []int{30, 31, 32, 33} {
		f := baseFiles()
		for i := range more {
			f = withFile(f, "other-"+strconv.Itoa(100+i), []byte{byte(i)})
		}
		s := mustOpen(t, f)
		// The base has 7 files: flush makes two of them, a pack of one piece one.
		room := impl.MaxFiles - 7 - more
		for _, c := range []struct {
			d    impl.Do
			need int
		}{{batchOf(putOf("k", 0, 1)), 0}, {flushDo(), 2}, {packDo(0), 1}, {packDo(1), 1}} {
			code := impl.StoreOk
			if c.need > room {
				code = impl.StoreFull
			}
			checkDo(t, "so many files", s, c.d, code)
		}
	}
}

// The first code in the chapter's order counts.
func TestPromise10CodesInOrder(t *testing.T) {
	long := longChanges(t, 2001)
	full := storeWith(t, putsFrom("k", 51, 900))
	used, _ := impl.UsedBytes(full.Files)
	full.Files.Quota = used
	checkDo(t, "StoreMem ahead of StoreBig and StoreFull", full, batchOf(long...), impl.StoreMem)
	checkDo(t, "StoreMem ahead of StoreFull", full, batchOf(putsFrom("k", 10, 10)...), impl.StoreMem)
	checkDo(t, "StoreFull", full, batchOf(putsFrom("k", 9, 10)...), impl.StoreFull)
	checkDo(t, "StoreBig ahead of StoreFull", newStore(t, 0), batchOf(long...), impl.StoreBig)
	checkDo(t, "StoreFull of nothing", newStore(t, 0), batchOf(putOf("k", 0, 1)), impl.StoreFull)
	big := storeWith(t, longEntries(t, 8001))
	used, _ = impl.UsedBytes(big.Files)
	big.Files.Quota = used
	checkDo(t, "flush: StoreBig ahead of StoreFull", big, flushDo(), impl.StoreBig)
	twelve := storeWith(t, nil, manyTables("k", 12, 100))
	used, _ = impl.UsedBytes(twelve.Files)
	twelve.Files.Quota = used
	checkDo(t, "flush: StoreNone ahead of StoreBig", twelve, flushDo(), impl.StoreNone)
	checkDo(t, "pack: StoreNone ahead of StoreFull", twelve, packDo(1), impl.StoreNone)
	many := storeWith(t, nil, manyTables("k", 12, 100), [][]impl.Entry{between("a", "z", 10)})
	used, _ = impl.UsedBytes(many.Files)
	many.Files.Quota = used
	checkDo(t, "pack: StoreBig ahead of StoreFull", many, packDo(0), impl.StoreBig)
	checkDo(t, "pack: StoreFull", many, packDo(1), impl.StoreFull)
	for _, s := range []impl.Store{full, big, twelve, many, newStore(t, 0)} {
		checkRefusedDo(t, "StoreBad ahead of all", s, impl.Do{Kind: impl.DoPack, Level: 2})
		checkRefusedDo(t, "StoreBad ahead of all", s, batchOf(append(slices.Clone(long), long...)...))
		checkRefusedDo(t, "StoreBad ahead of all", s, impl.Do{Kind: impl.DoFlush, Level: 1})
	}
}
