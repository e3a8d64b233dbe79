package tests

import (
	"bytes"
	"slices"
	"strings"
	"testing"

	"loop.example/g00150/impl"
)

func changeOf(e impl.Entry) impl.Change {
	return impl.Change{Key: e.Key, Kind: e.Kind, Agg: e.Agg}
}

// batchOf is a DoBatch of these entries' changes; their Seqs are not told.
func batchOf(l ...impl.Entry) impl.Do {
	d := impl.Do{Kind: impl.DoBatch}
	for _, e := range l {
		d.Changes = append(d.Changes, changeOf(e))
	}
	return d
}

func flushDo() impl.Do {
	return impl.Do{Kind: impl.DoFlush}
}

func packDo(level int) impl.Do {
	return impl.Do{Kind: impl.DoPack, Level: level}
}

func opOf(kind int, name string) impl.FileOp {
	return impl.FileOp{Kind: kind, Name: name}
}

func appendOf(name string, data []byte) impl.FileOp {
	return impl.FileOp{Kind: impl.OpAppend, Name: name, Data: data}
}

func sameOp(a impl.FileOp, b impl.FileOp) bool {
	return a.Kind == b.Kind && a.Name == b.Name && bytes.Equal(a.Data, b.Data)
}

func sameOps(a []impl.FileOp, b []impl.FileOp) bool {
	return slices.EqualFunc(a, b, sameOp)
}

// runOps does operations by the functions of chapter 2, up to the first that is refused.
func runOps(f impl.Files, ops []impl.FileOp) (impl.Files, int) {
	for _, op := range ops {
		var code int
		switch op.Kind {
		case impl.OpCreate:
			f, code = impl.CreateFile(f, op.Name)
		case impl.OpAppend:
			f, code = impl.AppendFile(f, op.Name, op.Data)
		case impl.OpSync:
			f, code = impl.SyncFile(f, op.Name)
		case impl.OpRemove:
			f, code = impl.RemoveFile(f, op.Name)
		}
		if code != impl.FileOk {
			return f, code
		}
	}
	return f, impl.FileOk
}

// A plainPlan is what the chapter's words ask of a Do on a store: its operations,
// and what the store is then, or a code and the store as it was.
type plainPlan struct {
	ops  []impl.FileOp
	next impl.Store
	code int
}

func planOf(s impl.Store, d impl.Do) plainPlan {
	var p plainPlan
	switch d.Kind {
	case impl.DoBatch:
		p = batchPlan(s, d.Changes)
	case impl.DoFlush:
		p = flushPlan(s)
	case impl.DoPack:
		p = packPlan(s, d.Level)
	}
	if p.code == impl.StoreOk {
		files, code := runOps(s.Files, p.ops)
		p.next.Files = files
		if code == impl.FileFull {
			p.code = impl.StoreFull
		}
	}
	if p.code != impl.StoreOk {
		return plainPlan{next: s, code: p.code}
	}
	return p
}

func greatestSeq(s impl.Store) int {
	seq := s.Version.Seq
	for _, e := range s.Mem {
		seq = max(seq, e.Seq)
	}
	return seq
}

// recordOps put a record behind a log, and sync it; false where that is too big.
func recordOps(s impl.Store, name string, record []byte) ([]impl.FileOp, bool) {
	at := len(bytesIn(s.Files, name))
	pieces := plainPieces(at, record)
	return []impl.FileOp{appendOf(name, pieces), opOf(impl.OpSync, name)}, len(record) <= impl.MaxRecord && at+len(pieces) <= impl.MaxLog
}

func tableOps(file int, l []impl.Entry) ([]impl.FileOp, bool) {
	name, table := tableFile(file), plainTable(l, 10)
	return []impl.FileOp{opOf(impl.OpCreate, name), appendOf(name, table), opOf(impl.OpSync, name)}, len(table) <= impl.MaxTable
}

func batchPlan(s impl.Store, changes []impl.Change) plainPlan {
	if len(s.Mem)+len(changes) > impl.MaxMem {
		return plainPlan{code: impl.StoreMem}
	}
	var l []impl.Entry
	for i, c := range changes {
		l = append(l, impl.Entry{Key: c.Key, Seq: greatestSeq(s) + 1 + i, Kind: c.Kind, Agg: c.Agg})
	}
	ops, fits := recordOps(s, logFile(s.Version.Log), plainBatch(l...))
	if !fits || greatestSeq(s)+len(changes) > topSeq {
		return plainPlan{code: impl.StoreBig}
	}
	return plainPlan{ops: ops, next: impl.Store{Version: s.Version, Mem: inOrder(append(slices.Clone(s.Mem), l...))}}
}

func flushPlan(s impl.Store) plainPlan {
	if len(s.Mem) == 0 {
		return plainPlan{code: impl.StoreNone}
	}
	n := s.Version.Next
	made, fits := tableOps(n, s.Mem)
	edit := impl.Edit{Next: n + 2, Log: n + 1, Seq: greatestSeq(s), Adds: []impl.Add{addFor(0, n, s.Mem)}}
	version, good := plainApply(s.Version, edit)
	told, short := recordOps(s, "manifest", plainEditBytes(edit))
	if !fits || !good || !short {
		return plainPlan{code: impl.StoreBig}
	}
	ops := append(made, opOf(impl.OpCreate, logFile(n+1)))
	ops = append(append(ops, told...), opOf(impl.OpRemove, logFile(s.Version.Log)))
	return plainPlan{ops: ops, next: impl.Store{Version: version}}
}

func overlaps(m impl.Meta, l []impl.Meta) bool {
	var ends []string
	for _, of := range l {
		ends = append(ends, of.Least, of.Most)
	}
	return m.Least <= slices.Max(ends) && m.Most >= slices.Min(ends)
}

func packPlan(s impl.Store, level int) plainPlan {
	v := s.Version
	if len(v.Levels[level]) == 0 {
		return plainPlan{code: impl.StoreNone}
	}
	upper := v.Levels[0]
	if level == 1 {
		upper = v.Levels[1][:1]
	}
	all := slices.Clone(upper)
	for _, m := range v.Levels[level+1] {
		if overlaps(m, upper) {
			all = append(all, m)
		}
	}
	bottom := level == 1 || !slices.ContainsFunc(v.Levels[2], func(m impl.Meta) bool { return overlaps(m, all) })
	var rows [][]impl.Entry
	edit := impl.Edit{Next: v.Next, Log: v.Log, Seq: v.Seq}
	var gone []impl.FileOp
	for _, m := range all {
		l, _ := impl.ReadTable(bytesIn(s.Files, tableFile(m.File)))
		rows = append(rows, l)
		edit.Drops = append(edit.Drops, m.File)
		gone = append(gone, opOf(impl.OpRemove, tableFile(m.File)))
	}
	if len(slices.Concat(rows...)) > mostJoined || len(rows) > mostRows {
		return plainPlan{code: impl.StoreBig}
	}
	var ops []impl.FileOp
	fits := true
	packed, _ := impl.PackRows(rows, bottom)
	pieces, _ := impl.SplitRows(packed, 20)
	for _, piece := range pieces {
		made, short := tableOps(edit.Next, piece)
		ops, fits = append(ops, made...), fits && short
		edit.Adds = append(edit.Adds, addFor(level+1, edit.Next, piece))
		edit.Next++
	}
	version, good := plainApply(v, edit)
	told, short := recordOps(s, "manifest", plainEditBytes(edit))
	if !fits || !good || !short {
		return plainPlan{code: impl.StoreBig}
	}
	return plainPlan{ops: slices.Concat(ops, told, gone), next: impl.Store{Version: version, Mem: s.Mem}}
}

// checkDo holds OpsOf and DoStore to the chapter's words, and to each other.
func checkDo(t *testing.T, what string, s impl.Store, d impl.Do, code int) impl.Store {
	t.Helper()
	if !impl.GoodStore(s) {
		t.Fatalf("%s: the store is not good: %v", what, s)
	}
	want := planOf(s, d)
	if want.code != code {
		t.Fatalf("%s: by the chapter's words the code is %d, not %d", what, want.code, code)
	}
	ops, got := impl.OpsOf(s, d)
	if got != code || !sameOps(ops, want.ops) {
		t.Fatalf("%s: OpsOf = %v, %d, want %v, %d", what, ops, got, want.ops, code)
	}
	next, got := impl.DoStore(s, d)
	if got != code || !sameStore(next, want.next) {
		t.Fatalf("%s: DoStore = %v, %d, want %v, %d", what, next, got, want.next, code)
	}
	if !impl.GoodStore(next) {
		t.Fatalf("%s: behind it the store is not good: %v", what, next)
	}
	if code == impl.StoreOk {
		files, told := runOps(s.Files, ops)
		if told != impl.FileOk || !sameFiles(files, next.Files) {
			t.Fatalf("%s: DoStore has done others than OpsOf tells: %v, want %v", what, next.Files, files)
		}
	}
	return next
}

func mustDo(t *testing.T, s impl.Store, l ...impl.Do) impl.Store {
	t.Helper()
	for _, d := range l {
		next, code := impl.DoStore(s, d)
		if code != impl.StoreOk {
			t.Fatalf("DoStore of %v tells %d", d, code)
		}
		s = next
	}
	return s
}

// storeWith is opened of files with these tables on its levels, the first from
// table-2 on, and these entries in its log.
func storeWith(t *testing.T, mem []impl.Entry, levels ...[][]impl.Entry) impl.Store {
	t.Helper()
	file, seq := 2, 0
	tables := map[int][]impl.Entry{}
	var edits []impl.Edit
	for i, level := range levels {
		edit := impl.Edit{}
		for _, l := range level {
			edit.Adds = append(edit.Adds, addFor(i, file, l))
			tables[file] = l
			file++
			for _, e := range l {
				seq = max(seq, e.Seq)
			}
		}
		edit.Next, edit.Log, edit.Seq = file, 1, seq
		edits = append(edits, edit)
	}
	return mustOpen(t, storeFiles(1, edits, slices.Collect(slices.Chunk(mem, impl.MaxBatch)), tables))
}

func checkOps(t *testing.T, what string, s impl.Store, d impl.Do, want ...impl.FileOp) impl.Store {
	t.Helper()
	ops, code := impl.OpsOf(s, d)
	if code != impl.StoreOk || !sameOps(ops, want) {
		t.Fatalf("%s: OpsOf = %v, %d, want %v", what, ops, code, want)
	}
	return checkDo(t, what, s, d, impl.StoreOk)
}

func TestPromise10OpsOfBatches(t *testing.T) {
	s := newStore(t, 5000)
	first := []impl.Entry{joinOf("k", 1, 4), dropOf("a", 2), putOf("k", 3, -9)}
	log := plainPieces(0, plainBatch(first...))
	s = checkOps(t, "the first batch", s, batchOf(first...), appendOf("log-1", log), opOf(impl.OpSync, "log-1"))
	if !sameEntries(s.Mem, []impl.Entry{first[1], first[2], first[0]}) || !sameVersion(s.Version, versionOf(2, 1, 0)) {
		t.Errorf("behind the first batch: %v, %v", s.Version, s.Mem)
	}
	more := plainPieces(len(log), plainBatch(putOf("z", 4, 100)))
	s = checkOps(t, "the second batch", s, batchOf(putOf("z", 99, 100)), appendOf("log-1", more), opOf(impl.OpSync, "log-1"))
	want := filesOf(5000, impl.File{Name: "log-1", Data: slices.Concat(log, more), Synced: len(log) + len(more)}, fileOf("manifest", "", 0))
	if !sameFiles(s.Files, want) {
		t.Errorf("behind the second batch: %v, want %v", s.Files, want)
	}
}

func TestPromise10OpsOfFlushes(t *testing.T) {
	s := newStore(t, 5000)
	l := []impl.Entry{joinOf("a", 2, 4), putOf("k", 3, 7), dropOf("k", 1)}
	s = mustDo(t, s, batchOf(dropOf("k", 0), joinOf("a", 0, 4)), batchOf(putOf("k", 0, 7)))
	edit := impl.Edit{Next: 4, Log: 3, Seq: 3, Adds: []impl.Add{{Level: 0, Meta: impl.Meta{File: 2, Least: "a", Most: "k", Many: 3}}}}
	s = checkOps(t, "the first flush", s, flushDo(),
		opOf(impl.OpCreate, "table-2"), appendOf("table-2", plainTable(l, 10)), opOf(impl.OpSync, "table-2"),
		opOf(impl.OpCreate, "log-3"),
		appendOf("manifest", plainPieces(0, plainEditBytes(edit))), opOf(impl.OpSync, "manifest"),
		opOf(impl.OpRemove, "log-1"))
	if len(s.Mem) != 0 || !sameVersion(s.Version, versionOf(4, 3, 3, []impl.Meta{metaFor(2, l)})) {
		t.Errorf("behind the first flush: %v, %v", s.Version, s.Mem)
	}
	s = mustDo(t, s, batchOf(joinOf("b", 0, 1)))
	other := impl.Edit{Next: 6, Log: 5, Seq: 4, Adds: []impl.Add{{Level: 0, Meta: impl.Meta{File: 4, Least: "b", Most: "b", Many: 1}}}}
	s = checkOps(t, "the second flush", s, flushDo(),
		opOf(impl.OpCreate, "table-4"), appendOf("table-4", plainTable([]impl.Entry{joinOf("b", 4, 1)}, 10)), opOf(impl.OpSync, "table-4"),
		opOf(impl.OpCreate, "log-5"),
		appendOf("manifest", plainPieces(len(plainPieces(0, plainEditBytes(edit))), plainEditBytes(other))), opOf(impl.OpSync, "manifest"),
		opOf(impl.OpRemove, "log-3"))
	if len(s.Files.Files) != 4 || len(s.Version.Levels[0]) != 2 || s.Version.Levels[0][0].File != 2 {
		t.Errorf("behind the second flush: %v, %v", s.Version, s.Files)
	}
}

func TestPromise10OpsOfPackingLevel0(t *testing.T) {
	s := baseStore()
	packed := []impl.Entry{
		{Key: "a", Seq: 30, Kind: impl.KindJoin, Agg: plainJoin(manyOf(1, 1, 2), manyOf(1, 3, 2))},
		putOf("b", 11, 3), dropOf("c", 4), dropOf("g", 10), putOf("m", 6, 9), joinOf("p", 7, 2), dropOf("q", 8),
		{Key: "z", Seq: 20, Kind: impl.KindPut, Agg: plainJoin(manyOf(1, 1, 2), manyOf(1, 4, 2))},
	}
	edit := impl.Edit{Next: 11, Log: 9, Seq: 30, Drops: []int{6, 8, 4, 5}, Adds: []impl.Add{{Level: 1, Meta: impl.Meta{File: 10, Least: "a", Most: "z", Many: 8}}}}
	next := checkOps(t, "level 0", s, packDo(0),
		opOf(impl.OpCreate, "table-10"), appendOf("table-10", plainTable(packed, 10)), opOf(impl.OpSync, "table-10"),
		appendOf("manifest", plainPieces(len(bytesIn(s.Files, "manifest")), plainEditBytes(edit))), opOf(impl.OpSync, "manifest"),
		opOf(impl.OpRemove, "table-6"), opOf(impl.OpRemove, "table-8"), opOf(impl.OpRemove, "table-4"), opOf(impl.OpRemove, "table-5"))
	want := versionOf(11, 9, 30, nil, []impl.Meta{metaFor(10, packed)}, s.Version.Levels[2])
	if !sameVersion(next.Version, want) || !sameEntries(next.Mem, s.Mem) {
		t.Errorf("behind it: %v, %v", next.Version, next.Mem)
	}
}

func TestPromise10OpsOfPackingLevel1(t *testing.T) {
	s := baseStore()
	packed := []impl.Entry{{Key: "a", Seq: 5, Kind: impl.KindPut, Agg: plainJoin(manyOf(1, 1, 2), manyOf(1, 5, 2))}, putOf("g", 2, 6)}
	edit := impl.Edit{Next: 11, Log: 9, Seq: 30, Drops: []int{4, 3}, Adds: []impl.Add{{Level: 2, Meta: impl.Meta{File: 10, Least: "a", Most: "g", Many: 2}}}}
	first := plainPieces(len(bytesIn(s.Files, "manifest")), plainEditBytes(edit))
	next := checkOps(t, "level 1", s, packDo(1),
		opOf(impl.OpCreate, "table-10"), appendOf("table-10", plainTable(packed, 10)), opOf(impl.OpSync, "table-10"),
		appendOf("manifest", first), opOf(impl.OpSync, "manifest"),
		opOf(impl.OpRemove, "table-4"), opOf(impl.OpRemove, "table-3"))
	if !sameVersion(next.Version, versionOf(11, 9, 30, s.Version.Levels[0], s.Version.Levels[1][1:], []impl.Meta{metaFor(10, packed)})) {
		t.Errorf("behind it: %v", next.Version)
	}
	// The next one of level 1 overlaps none below; at the bottom its drop goes.
	left := []impl.Entry{putOf("m", 6, 9), {Key: "p", Seq: 7, Kind: impl.KindPut, Agg: manyOf(1, 2, 2)}}
	edit = impl.Edit{Next: 12, Log: 9, Seq: 30, Drops: []int{5}, Adds: []impl.Add{{Level: 2, Meta: impl.Meta{File: 11, Least: "m", Most: "p", Many: 2}}}}
	last := checkOps(t, "level 1 again", next, packDo(1),
		opOf(impl.OpCreate, "table-11"), appendOf("table-11", plainTable(left, 10)), opOf(impl.OpSync, "table-11"),
		appendOf("manifest", plainPieces(len(bytesIn(next.Files, "manifest")), plainEditBytes(edit))), opOf(impl.OpSync, "manifest"),
		opOf(impl.OpRemove, "table-5"))
	checkDo(t, "level 1 is empty then", last, packDo(1), impl.StoreNone)
}

// Nothing is left of what is packed: then no table is made.
func TestPromise10OpsOfPackingNothing(t *testing.T) {
	drops := []impl.Entry{dropOf("b", 5), dropOf("k", 4)}
	for level := range 2 {
		levels := make([][][]impl.Entry, 3)
		levels[level] = [][]impl.Entry{drops}
		s := storeWith(t, nil, levels...)
		edit := impl.Edit{Next: 3, Log: 1, Seq: 5, Drops: []int{2}}
		next := checkOps(t, "nothing is left", s, packDo(level),
			appendOf("manifest", plainPieces(len(bytesIn(s.Files, "manifest")), plainEditBytes(edit))), opOf(impl.OpSync, "manifest"),
			opOf(impl.OpRemove, "table-2"))
		if !sameVersion(next.Version, versionOf(3, 1, 5)) {
			t.Errorf("behind it: %v", next.Version)
		}
	}
}

func filesOfLevel(v impl.Version, level int) []int {
	var out []int
	for _, m := range v.Levels[level] {
		out = append(out, m.File)
	}
	return out
}

// between is a table of two puts, the least and the greatest key of its span.
func between(least string, most string, seq int) []impl.Entry {
	if least == most {
		return []impl.Entry{putOf(least, seq, 1)}
	}
	return []impl.Entry{putOf(least, seq, 1), putOf(most, seq-1, 2)}
}

func TestPromise10PackTakesWhatOverlaps(t *testing.T) {
	for _, c := range []struct {
		what  string
		below [][2]string
		taken []int
	}{
		{"none below", nil, nil},
		{"one below the span", [][2]string{{"a", "c"}}, nil},
		{"one above the span", [][2]string{{"r", "z"}}, nil},
		{"both beside", [][2]string{{"a", "d"}, {"q", "z"}}, nil},
		{"just touching below", [][2]string{{"a", "e"}}, []int{0}},
		{"just touching above", [][2]string{{"p", "z"}}, []int{0}},
		{"touching at both ends", [][2]string{{"a", "e"}, {"p", "z"}}, []int{0, 1}},
		{"just not touching", [][2]string{{"a", "d\xff"}, {"p\x00", "z"}}, nil},
		{"all around", [][2]string{{"a", "z"}}, []int{0}},
		{"within", [][2]string{{"k", "l"}}, []int{0}},
		{"in the gap of two", [][2]string{{"h", "h"}}, []int{0}},
		{"one key", [][2]string{{"e", "e"}, {"p", "p"}}, []int{0, 1}},
		{"many", [][2]string{{"a", "b"}, {"c", "f"}, {"g", "h"}, {"o", "q"}, {"r", "s"}}, []int{1, 2, 3}},
		{"the middle alone", [][2]string{{"a", "b"}, {"g", "h"}, {"q", "s"}}, []int{1}},
	} {
		var lower [][]impl.Entry
		for i, ends := range c.below {
			lower = append(lower, between(ends[0], ends[1], 20+2*i))
		}
		// Level 0 has two with a gap between them, level 1 one over the same span.
		for level, upper := range [][][]impl.Entry{{between("l", "p", 60), between("e", "f", 62)}, {between("e", "p", 60), between("pz", "pzz", 62)}} {
			if level == 1 && slices.ContainsFunc(c.below, func(ends [2]string) bool { return ends[0] == "p\x00" }) {
				upper = upper[:1]
			}
			levels := make([][][]impl.Entry, 3)
			levels[level], levels[level+1] = upper, lower
			s := storeWith(t, nil, levels...)
			next := checkDo(t, c.what, s, packDo(level), impl.StoreOk)
			first := 2 + len(upper)
			var stay []int
			for i := range lower {
				if !slices.Contains(c.taken, i) {
					stay = append(stay, first+i)
				}
			}
			made := filesOfLevel(next.Version, level+1)
			slices.Sort(made)
			if !slices.Equal(made, append(stay, s.Version.Next)) {
				t.Errorf("%s: level %d has %v then, want %v and %d", c.what, level+1, made, stay, s.Version.Next)
			}
		}
	}
}

// Of level 1 the first goes alone, even if there are others.
func TestPromise10PackTakesTheFirstOfLevel1(t *testing.T) {
	s := storeWith(t, nil, [][]impl.Entry{between("a", "z", 90)}, [][]impl.Entry{between("b", "c", 50), between("d", "e", 52), between("f", "z", 54)}, [][]impl.Entry{between("a", "b", 10), between("c", "d", 12), between("e", "f", 14)})
	next := checkDo(t, "the first of three", s, packDo(1), impl.StoreOk)
	if !slices.Equal(filesOfLevel(next.Version, 1), []int{4, 5}) || !slices.Equal(filesOfLevel(next.Version, 2), []int{9, 8}) {
		t.Errorf("behind it: %v", next.Version)
	}
	if !slices.Equal(filesOfLevel(next.Version, 0), []int{2}) {
		t.Errorf("level 0 is %v", next.Version.Levels[0])
	}
}

// The bottom is where no file two levels below overlaps the span of all together.
func TestPromise10PackAtTheBottom(t *testing.T) {
	for _, c := range []struct {
		what   string
		lower  [][]impl.Entry
		lowest [][]impl.Entry
		bottom bool
	}{
		{"nothing below", nil, nil, true},
		{"one beside", nil, [][]impl.Entry{between("a", "d", 10), between("q", "z", 12)}, true},
		{"one that touches below", nil, [][]impl.Entry{between("a", "e", 10)}, false},
		{"one that touches above", nil, [][]impl.Entry{between("p", "z", 10)}, false},
		{"one that just does not touch", nil, [][]impl.Entry{between("a", "d\xff", 10), between("p\x00", "z", 12)}, true},
		{"one in the gap", nil, [][]impl.Entry{between("h", "h", 10)}, false},
		{"one all around", nil, [][]impl.Entry{between("a", "z", 10)}, false},
		{"one that only the level between reaches", [][]impl.Entry{between("b", "e", 20)}, [][]impl.Entry{between("c", "d", 10)}, false},
		{"one that the level between reaches above", [][]impl.Entry{between("o", "t", 20)}, [][]impl.Entry{between("t", "x", 10)}, false},
		{"one that the level between does not reach", [][]impl.Entry{between("o", "t", 20)}, [][]impl.Entry{between("u", "x", 10)}, true},
		{"one that a table beside would reach", [][]impl.Entry{between("q", "t", 20)}, [][]impl.Entry{between("r", "s", 10)}, true},
	} {
		upper := [][]impl.Entry{{dropOf("e", 60), joinOf("f", 61, 5)}, {joinOf("m", 62, 1), dropOf("p", 63)}}
		s := storeWith(t, nil, upper, c.lower, c.lowest)
		next := checkDo(t, c.what, s, packDo(0), impl.StoreOk)
		l, _ := impl.ReadTable(bytesIn(next.Files, tableFile(s.Version.Next)))
		drops := slices.ContainsFunc(l, func(e impl.Entry) bool { return e.Kind == impl.KindDrop })
		joins := slices.ContainsFunc(l, func(e impl.Entry) bool { return e.Kind == impl.KindJoin })
		if drops == c.bottom || joins == c.bottom {
			t.Errorf("%s: %v is made, bottom is %v", c.what, l, c.bottom)
		}
	}
	// Below level 2 is nothing: there it is always the bottom.
	s := storeWith(t, nil, nil, [][]impl.Entry{{dropOf("e", 60), joinOf("m", 62, 1)}}, [][]impl.Entry{between("f", "g", 10)})
	next := checkDo(t, "level 1", s, packDo(1), impl.StoreOk)
	l, _ := impl.ReadTable(bytesIn(next.Files, tableFile(s.Version.Next)))
	if !sameEntries(l, []impl.Entry{putOf("f", 10, 1), putOf("g", 9, 2), {Key: "m", Seq: 62, Kind: impl.KindPut, Agg: manyOf(1, 1, 2)}}) {
		t.Errorf("level 1: %v is made", l)
	}
}

// putsFrom are so many puts, rising, with Seqs that fall from the first.
func putsFrom(head string, many int, seq int) []impl.Entry {
	var out []impl.Entry
	for i := range many {
		out = append(out, putOf(head+string([]byte{'0' + byte(i/10), '0' + byte(i%10)}), seq-i, i))
	}
	return out
}

func TestPromise10PackInPieces(t *testing.T) {
	for _, c := range []struct {
		many   int
		pieces []int
	}{
		{1, []int{1}}, {19, []int{19}}, {20, []int{20}}, {21, []int{20, 1}}, {39, []int{20, 19}}, {40, []int{20, 20}}, {41, []int{20, 20, 1}}, {100, []int{20, 20, 20, 20, 20}},
	} {
		for level := range 2 {
			levels := make([][][]impl.Entry, 3)
			levels[level] = [][]impl.Entry{putsFrom("k", c.many, 100)}
			s := storeWith(t, nil, levels...)
			next := checkDo(t, "pieces", s, packDo(level), impl.StoreOk)
			var many, files []int
			for i, m := range next.Version.Levels[level+1] {
				many = append(many, m.Many)
				files = append(files, 3+i)
			}
			if !slices.Equal(many, c.pieces) || !slices.Equal(filesOfLevel(next.Version, level+1), files) || next.Version.Next != 3+len(files) {
				t.Errorf("%d entries in pieces: %v", c.many, next.Version)
			}
		}
	}
}

// Entries of one key are packed to one, so that they do not count in pieces.
func TestPromise10PackManyOfOneKey(t *testing.T) {
	var l []impl.Entry
	for i := range 100 {
		l = append(l, joinOf("k", 100-i, i))
	}
	s := storeWith(t, nil, [][]impl.Entry{l})
	next := checkDo(t, "one key", s, packDo(0), impl.StoreOk)
	if len(next.Version.Levels[1]) != 1 || next.Version.Levels[1][0].Many != 1 {
		t.Errorf("behind it: %v", next.Version)
	}
	if a, has, ok := impl.GetKey(next, "k"); a.Count != 100 || a.Sum != 4950 || !has || !ok {
		t.Errorf("GetKey = %v, %v, %v", a, has, ok)
	}
}

func TestPromise10NextSeqs(t *testing.T) {
	for _, c := range []struct {
		what string
		s    impl.Store
		seq  int
	}{
		{"a new store", newStore(t, 1000), 1},
		{"behind the version's", storeWith(t, nil, [][]impl.Entry{{putOf("k", 70, 1)}}), 71},
		{"behind Mem's", storeWith(t, []impl.Entry{putOf("k", 80, 1)}, [][]impl.Entry{{putOf("k", 70, 1)}}), 81},
		{"behind the greatest of Mem's", storeWith(t, []impl.Entry{putOf("a", 90, 1), putOf("b", 85, 1), putOf("c", 88, 1)}, [][]impl.Entry{{putOf("k", 70, 1)}}), 91},
		{"behind the greatest, told last", storeWith(t, []impl.Entry{putOf("a", 71, 1), putOf("b", 72, 1), putOf("c", 500, 1)}), 501},
		{"an ordinary one", baseStore(), 37},
	} {
		next := checkDo(t, c.what, c.s, batchOf(putOf("p", 0, 1), joinOf("o", 0, 2), dropOf("p", 0)), impl.StoreOk)
		for _, e := range []impl.Entry{putOf("p", c.seq, 1), joinOf("o", c.seq+1, 2), dropOf("p", c.seq+2)} {
			if !slices.ContainsFunc(next.Mem, func(of impl.Entry) bool { return sameEntry(of, e) }) {
				t.Errorf("%s: %v is not in %v", c.what, e, next.Mem)
			}
		}
		flushed := checkDo(t, c.what+", flushed", next, flushDo(), impl.StoreOk)
		if flushed.Version.Seq != c.seq+2 {
			t.Errorf("%s: the Seq is %d, want %d", c.what, flushed.Version.Seq, c.seq+2)
		}
		checkDo(t, c.what+", one more", flushed, batchOf(putOf("p", 0, 1)), impl.StoreOk)
	}
}

func TestPromise10EachKindOfChange(t *testing.T) {
	long := strings.Repeat("\xff", impl.MaxKeyBytes)
	for _, a := range goodAggs() {
		for _, kind := range []int{impl.KindPut, impl.KindJoin} {
			for _, key := range []string{"k", "\x00", "é", long} {
				d := impl.Do{Kind: impl.DoBatch, Changes: []impl.Change{{Key: key, Kind: kind, Agg: a}}}
				s := checkDo(t, "a change", newStore(t, 3000), d, impl.StoreOk)
				if !sameEntries(s.Mem, []impl.Entry{{Key: key, Seq: 1, Kind: kind, Agg: a}}) {
					t.Errorf("Mem is %v", s.Mem)
				}
			}
		}
	}
	for _, hist := range [][]int{nil, {}} {
		d := impl.Do{Kind: impl.DoBatch, Changes: []impl.Change{{Key: long, Kind: impl.KindDrop, Agg: impl.Agg{Hist: hist}}}}
		checkDo(t, "a drop", newStore(t, 3000), d, impl.StoreOk)
	}
}
