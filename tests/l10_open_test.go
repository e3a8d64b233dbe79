package tests

import (
	"bytes"
	"math"
	"slices"
	"strings"
	"testing"

	"loop.example/g00150/impl"
)

// withRecords has a log of these records under the name.
func withRecords(f impl.Files, name string, records ...[]byte) impl.Files {
	log, _ := plainLog(records)
	return withFile(f, name, log)
}

func editRecords() [][]byte {
	var out [][]byte
	for _, e := range baseEdits() {
		out = append(out, plainEditBytes(e))
	}
	return out
}

func batchRecords() [][]byte {
	var out [][]byte
	for _, l := range baseBatches() {
		out = append(out, plainBatch(l...))
	}
	return out
}

// checkNoEditRecord puts the record ahead of, between and behind those of the manifest.
func checkNoEditRecord(t *testing.T, what string, record []byte) {
	t.Helper()
	for place := range len(baseEdits()) + 1 {
		checkNotOpened(t, what, withRecords(baseFiles(), "manifest", slices.Insert(editRecords(), place, record)...))
	}
	checkNotOpened(t, what+" alone", withRecords(storeFiles(1, nil, nil, nil), "manifest", record))
}

// checkNoBatchRecord puts the record ahead of, between and behind those of the log.
func checkNoBatchRecord(t *testing.T, what string, record []byte) {
	t.Helper()
	for place := range len(baseBatches()) + 1 {
		checkNotOpened(t, what, withRecords(baseFiles(), "log-9", slices.Insert(batchRecords(), place, record)...))
	}
	checkNotOpened(t, what+" alone", withRecords(storeFiles(1, nil, nil, nil), "log-1", record))
}

func TestPromise10OpenFilesThatAreNotGood(t *testing.T) {
	for _, f := range badFiles() {
		checkNotOpened(t, "files that are not good", f)
	}
	used, _ := impl.UsedBytes(baseFiles())
	for _, change := range []func(*impl.Files){
		func(f *impl.Files) { f.Quota = used - 1 },
		func(f *impl.Files) { f.Quota = 0 },
		func(f *impl.Files) { f.Quota = -1 },
		func(f *impl.Files) { f.Quota = impl.MaxQuota + 1 },
		func(f *impl.Files) { f.Files[0], f.Files[1] = f.Files[1], f.Files[0] },
		func(f *impl.Files) { f.Files = append(f.Files, f.Files[len(f.Files)-1]) },
		func(f *impl.Files) { f.Files[1].Synced = len(f.Files[1].Data) + 1 },
		func(f *impl.Files) { f.Files[2].Synced = -1 },
		func(f *impl.Files) { f.Files = append(f.Files, fileOf("zé", "", 0)) },
		func(f *impl.Files) { f.Files = append(f.Files, fileOf(strings.Repeat("z", 21), "", 0)) },
	} {
		f := baseFiles()
		change(&f)
		checkNotOpened(t, "base files that are not good", f)
	}
	want := baseStore()
	want.Files.Quota = used
	checkOpen(t, "a quota that is just enough", want.Files, want)
	checkNotOpened(t, "no files at all", impl.Files{})
}

func TestPromise10OpenNoManifest(t *testing.T) {
	checkNotOpened(t, "no manifest", withoutFile(baseFiles(), "manifest"))
	checkNotOpened(t, "no manifest of a new store", withoutFile(storeFiles(1, nil, nil, nil), "manifest"))
	checkNotOpened(t, "a manifest of another name", withFile(withoutFile(baseFiles(), "manifest"), "manifest-1", bytesIn(baseFiles(), "manifest")))
	// Without a byte it is one: then the store is the first version's.
	checkNotOpened(t, "an empty manifest, but no log-1", withFile(baseFiles(), "manifest", nil))
	checkOpen(t, "an empty manifest", withFile(withFile(baseFiles(), "manifest", nil), "log-1", nil),
		impl.Store{Files: storeFiles(1, nil, nil, nil), Version: versionOf(2, 1, 0)})
}

// padded is so many bytes long by what is no piece.
func padded(log []byte, many int) []byte {
	return append(slices.Clone(log), slices.Repeat([]byte{255}, many-len(log))...)
}

func TestPromise10OpenAtMaxLog(t *testing.T) {
	for _, name := range []string{"manifest", "log-9"} {
		log := bytesIn(baseFiles(), name)
		for _, many := range []int{len(log), len(log) + 1, 5000, impl.MaxLog - 1, impl.MaxLog} {
			checkOpen(t, name+" up to MaxLog", withFile(baseFiles(), name, padded(log, many)), baseStore())
		}
		for _, many := range []int{impl.MaxLog + 1, impl.MaxLog + 2, impl.MaxLog + impl.LogBlock, 2 * impl.MaxLog} {
			checkNotOpened(t, name+" above MaxLog", withFile(baseFiles(), name, padded(log, many)))
			checkNotOpened(t, name+" above MaxLog, nothing else", withFile(storeFiles(1, nil, nil, nil), strings.Replace(name, "9", "1", 1), make([]byte, many)))
		}
	}
}

func TestPromise10OpenRecordsThatAreNoEdit(t *testing.T) {
	for _, e := range append(baseEdits(), impl.Edit{Next: 11, Log: 10, Seq: 31, Drops: []int{3, 6}}) {
		whole := plainEditBytes(e)
		for cut := range whole {
			checkNoEditRecord(t, "a cut edit", whole[:cut])
		}
		checkNoEditRecord(t, "one more byte", append(slices.Clone(whole), 0))
		parts := editParts(e)
		for i := range parts {
			if isTextPart(e, i) {
				continue
			}
			for _, form := range longer(parts[i]) {
				changed := slices.Clone(parts)
				changed[i] = form
				checkNoEditRecord(t, "a longer form", bytes.Join(changed, nil))
			}
		}
	}
	for i, c := range badEdits() {
		if i%5 == 0 {
			checkNoEditRecord(t, c.what, plainEditBytes(c.edit))
		}
	}
	checkNoEditRecord(t, "no bytes", nil)
	checkNoEditRecord(t, "a batch", batchRecords()[0])
}

func TestPromise10OpenEditsThatDoNotApply(t *testing.T) {
	l := []impl.Entry{putOf("n", 30, 5)}
	f := withFile(withFile(baseFiles(), "table-10", plainTable(l, 10)), "log-11", nil)
	for _, c := range []struct {
		what string
		edit impl.Edit
	}{
		{"a lesser Next", impl.Edit{Next: 9, Log: 7, Seq: 30}},
		{"a lesser Seq", impl.Edit{Next: 12, Log: 11, Seq: 29}},
		{"a drop that is not there", impl.Edit{Next: 12, Log: 11, Seq: 30, Drops: []int{7}}},
		{"a drop twice", impl.Edit{Next: 12, Log: 11, Seq: 30, Drops: []int{3, 3}}},
		{"a Log that is Next", impl.Edit{Next: 11, Log: 11, Seq: 30}},
		{"a Log that is a File", impl.Edit{Next: 12, Log: 8, Seq: 30}},
		{"a File twice", impl.Edit{Next: 12, Log: 11, Seq: 30, Adds: []impl.Add{addFor(0, 8, baseTables()[8])}}},
		{"a File that is Next", impl.Edit{Next: 10, Log: 9, Seq: 30, Adds: []impl.Add{addFor(0, 10, l)}}},
		{"keys that are not apart", impl.Edit{Next: 12, Log: 11, Seq: 30, Adds: []impl.Add{addFor(1, 10, l)}}},
	} {
		checkNotOpened(t, c.what, withRecords(f, "manifest", append(editRecords(), plainEditBytes(c.edit))...))
	}
	applies := impl.Edit{Next: 12, Log: 11, Seq: 30, Drops: []int{5, 8}, Adds: []impl.Add{addFor(1, 10, l)}}
	if _, code := impl.OpenStore(withRecords(f, "manifest", append(editRecords(), plainEditBytes(applies))...)); code != impl.StoreOk {
		t.Errorf("an edit that applies: %d", code)
	}
	checkNotOpened(t, "without the edit that names the log", withRecords(f, "manifest", editRecords()[:3]...))
	checkNotOpened(t, "two edits exchanged", withRecords(f, "manifest", editRecords()[1], editRecords()[0], editRecords()[2], editRecords()[3]))
	checkNotOpened(t, "an edit twice", withRecords(f, "manifest", append(editRecords(), editRecords()[3])...))
}

func TestPromise10OpenNoLog(t *testing.T) {
	checkNotOpened(t, "no log", withoutFile(baseFiles(), "log-9"))
	checkNotOpened(t, "no log of a new store", withoutFile(storeFiles(1, nil, nil, nil), "log-1"))
	for _, name := range []string{"log-1", "log-8", "log-10", "log-09", "log-", "log", "log9", "log-9-", "log-99"} {
		checkNotOpened(t, "another log", withFile(withoutFile(baseFiles(), "log-9"), name, bytesIn(baseFiles(), "log-9")))
	}
	want := baseStore()
	want.Files, want.Mem = withFile(want.Files, "log-9", nil), nil
	checkOpen(t, "an empty log", withFile(baseFiles(), "log-9", nil), want)
}

func TestPromise10OpenRecordsThatAreNoBatch(t *testing.T) {
	whole := []impl.Entry{joinOf("k", 300, 12345), dropOf("l", 301), putOf("m", 302, -9)}
	parts := batchParts(whole)
	form := bytes.Join(parts, nil)
	for cut := range form {
		checkNoBatchRecord(t, "a cut batch", form[:cut])
	}
	for _, more := range []string{"\x00", "\x01", "\x02", "x"} {
		checkNoBatchRecord(t, "one more byte", append(slices.Clone(form), more...))
	}
	for i := range parts {
		// The parts of a change: the kind, the key's length, the key, Seq, the agg's length, the agg.
		if i > 0 && slices.Contains([]int{0, 2, 5}, (i-1)%6) {
			continue
		}
		for _, other := range longer(parts[i]) {
			changed := slices.Clone(parts)
			changed[i] = other
			checkNoBatchRecord(t, "a longer form", bytes.Join(changed, nil))
		}
	}
	for _, a := range []impl.Agg{whole[0].Agg, whole[2].Agg} {
		for _, agg := range longerForms(a) {
			changed := slices.Clone(parts)
			changed[5], changed[6] = varOf(len(agg)), agg
			checkNoBatchRecord(t, "a longer form in an agg", bytes.Join(changed, nil))
		}
	}
	checkNoBatchRecord(t, "no bytes", nil)
	checkNoBatchRecord(t, "an edit", editRecords()[0])
	checkNoBatchRecord(t, "two batches in one", slices.Concat(form, plainBatch(putOf("k", 400, 1))))
	want := impl.Store{Files: withRecords(storeFiles(1, nil, nil, nil), "log-1", form), Version: versionOf(2, 1, 0), Mem: whole}
	checkOpen(t, "a whole batch", want.Files, want)
}

// A batch has as many changes as DoBatch may have.
func TestPromise10OpenBatchesOfManyChanges(t *testing.T) {
	empty := storeFiles(1, nil, nil, nil)
	for many := range impl.MaxBatch + 3 {
		var l []impl.Entry
		for i := range many {
			l = append(l, joinOf("k", many-i, i))
		}
		f := withRecords(empty, "log-1", plainBatch(l...))
		if many < 1 || many > impl.MaxBatch {
			checkNotOpened(t, "so many changes", f)
			continue
		}
		checkOpen(t, "so many changes", f, impl.Store{Files: f, Version: versionOf(2, 1, 0), Mem: l})
	}
	one := plainBatch(putOf("k", 1, 1))
	for _, many := range []int{2, 128, 256 + 1, 1<<32 + 1, math.MaxInt} {
		checkNoBatchRecord(t, "more changes told than there are", slices.Concat(varOf(many), one[1:]))
	}
	checkNoBatchRecord(t, "a number of changes above an int", slices.Concat([]byte("\x81\x80\x80\x80\x80\x80\x80\x80\x80\x01"), one[1:]))
}

func TestPromise10OpenEntriesThatAreNotGood(t *testing.T) {
	for i, c := range badEntries() {
		if i%3 > 0 || c.entry.Kind < 0 || c.entry.Kind > 255 || c.entry.Seq < 0 || len(c.entry.Key) > 3000 {
			continue
		}
		e := c.entry
		if e.Seq == 5 {
			e.Seq = 500
		}
		if !impl.GoodEntry(e) && (e.Kind != impl.KindDrop || len(e.Agg.Hist) > 0) {
			checkNoBatchRecord(t, c.what, plainBatch(e))
			checkNoBatchRecord(t, c.what+" between", plainBatch(putOf("k", 498, 1), e, putOf("k", 499, 1)))
		}
	}
	for _, kind := range []int{0, 4, 5, 127, 128, 255} {
		e := putOf("k", 500, 1)
		e.Kind = kind
		checkNoBatchRecord(t, "a Kind that is none", plainBatch(e))
	}
	for _, many := range []int{0, impl.MaxKeyBytes + 1, 300} {
		checkNoBatchRecord(t, "a key of so many bytes", plainBatch(dropOf(strings.Repeat("k", many), 500)))
	}
	for _, seq := range []int{0, topSeq + 1, topSeq + 2, 1<<32 + 50, math.MaxInt} {
		checkNoBatchRecord(t, "a Seq that is none", plainBatch(dropOf("k", seq)))
	}
	checkNoBatchRecord(t, "a put without an agg", slices.Concat([]byte{1, impl.KindPut, 1, 'k'}, varOf(500), []byte{0}))
	checkNoBatchRecord(t, "a join without an agg", slices.Concat([]byte{1, impl.KindJoin, 1, 'k'}, varOf(500), []byte{0}))
	agg := plainAggBytes(manyOf(1, 5, 2))
	checkNoBatchRecord(t, "a drop with an agg", slices.Concat([]byte{1, impl.KindDrop, 1, 'k'}, varOf(500), varOf(len(agg)), agg))
}

func TestPromise10OpenSeqsOfTheLog(t *testing.T) {
	for _, c := range []struct {
		what string
		seqs []int
		good bool
	}{
		{"just above the version's", []int{31}, true},
		{"the version's", []int{30}, false},
		{"below the version's", []int{29}, false},
		{"far below the version's", []int{1}, false},
		{"the greatest", []int{topSeq}, true},
		{"apart", []int{40, 100, 35}, true},
		{"one of them the version's", []int{31, 30, 32}, false},
		{"the last the version's", []int{31, 32, 30}, false},
		{"one twice", []int{31, 32, 31}, false},
		{"one twice, at once", []int{31, 31}, false},
	} {
		var apart [][]impl.Entry
		var together []impl.Entry
		for i, seq := range c.seqs {
			e := putOf(string([]byte{'a' + byte(i)}), seq, i)
			apart, together = append(apart, []impl.Entry{e}), append(together, e)
		}
		for _, batches := range [][][]impl.Entry{apart, {together}} {
			f := storeFiles(9, baseEdits(), batches, baseTables())
			if !c.good {
				checkNotOpened(t, c.what, f)
				continue
			}
			want := baseStore()
			want.Files, want.Mem = f, together
			checkOpen(t, c.what, f, want)
		}
	}
	same := storeFiles(9, baseEdits(), [][]impl.Entry{{putOf("k", 40, 1)}, {putOf("k", 40, 1)}}, baseTables())
	checkNotOpened(t, "a batch twice", same)
}

func TestPromise10OpenAtMaxMem(t *testing.T) {
	for _, many := range []int{1, impl.MaxMem - 1, impl.MaxMem, impl.MaxMem + 1, impl.MaxMem + 2, impl.MaxMem + impl.MaxBatch} {
		for _, most := range []int{1, 7, impl.MaxBatch} {
			var all []impl.Entry
			for i := range many {
				all = append(all, joinOf("k", 30+many-i, i))
			}
			batches := slices.Collect(slices.Chunk(slices.Clone(all), most))
			f := storeFiles(9, baseEdits(), batches, baseTables())
			if many > impl.MaxMem {
				checkNotOpened(t, "more than MaxMem", f)
				continue
			}
			want := baseStore()
			want.Files, want.Mem = f, all
			checkOpen(t, "up to MaxMem", f, want)
		}
	}
}

func TestPromise10OpenTablesThatAreNone(t *testing.T) {
	for file, l := range baseTables() {
		name, table := tableFile(file), plainTable(l, 10)
		checkNotOpened(t, "a table that is not there", withoutFile(baseFiles(), name))
		checkNotOpened(t, "a table of another name", withFile(withoutFile(baseFiles(), name), "table-0"+name[6:], table))
		checkNotOpened(t, "an empty table", withFile(baseFiles(), name, nil))
		checkNotOpened(t, "one more byte", withFile(baseFiles(), name, append(slices.Clone(table), 0)))
		checkNotOpened(t, "entries twice", withFile(baseFiles(), name, slices.Concat(table, table)))
		checkNotOpened(t, "too long", withFile(baseFiles(), name, slices.Concat(make([]byte, impl.MaxTable), table)))
		for place := range table {
			checkNotOpened(t, "a cut table", withFile(baseFiles(), name, table[:place]))
			changed := slices.Clone(table)
			changed[place] ^= 1
			checkNotOpened(t, "a changed byte", withFile(baseFiles(), name, changed))
		}
		checkNotOpened(t, "no form, with its check", withFile(baseFiles(), name, sealed(table[:len(table)-20], 0, 0, len(l))))
	}
}

// keyBelow is the key with its last byte one less.
func keyBelow(key string) string {
	last := len(key) - 1
	return key[:last] + string([]byte{key[last] - 1})
}

// Each other entry keeps the table good, and breaks what the meta tells of it.
func TestPromise10OpenTablesThatAreNotTheMetas(t *testing.T) {
	for file, l := range baseTables() {
		last := len(l) - 1
		lower, higher := copyEntries(l), copyEntries(l)
		lower[0].Key = keyBelow(lower[0].Key)
		higher[last].Key += "0"
		shorter := append([]impl.Entry{}, l[0])
		more := []impl.Entry{l[0], putOf(l[0].Key+"0", 15, 1)}
		for _, c := range []struct {
			what    string
			entries []impl.Entry
		}{
			{"another Least", lower},
			{"another Most", higher},
			{"fewer, without the greatest", l[:last]},
			{"fewer, without the least", l[1:]},
			{"the first alone", shorter},
			{"more", append(more, l[1:]...)},
			{"more of one key", append([]impl.Entry{putOf(l[0].Key, 30-l[0].Seq%3-1, 1)}, l...)},
		} {
			l := inOrder(c.entries)
			if !impl.GoodEntries(l) {
				continue
			}
			checkNotOpened(t, c.what, withFile(baseFiles(), tableFile(file), plainTable(l, 10)))
		}
	}
	for file, l := range baseTables() {
		for _, change := range []func(*impl.Meta){
			func(m *impl.Meta) { m.Many++ },
			func(m *impl.Meta) { m.Many-- },
			func(m *impl.Meta) { m.Least = keyBelow(m.Least) },
			func(m *impl.Meta) { m.Least += "\x00" },
			func(m *impl.Meta) { m.Most += "\x00" },
			func(m *impl.Meta) { m.Most = m.Least },
		} {
			edits := baseEdits()
			for i := range edits {
				for j := range edits[i].Adds {
					if edits[i].Adds[j].Meta.File == file {
						change(&edits[i].Adds[j].Meta)
					}
				}
			}
			_, applied, _ := impl.ReplayEdits(edits)
			if applied != len(edits) {
				t.Fatalf("the edits of table %d of %v do not apply", file, l)
			}
			checkNotOpened(t, "another meta", storeFiles(9, edits, baseBatches(), baseTables()))
		}
	}
	exchanged := withFile(baseFiles(), "table-4", plainTable(baseTables()[5], 10))
	checkNotOpened(t, "two tables exchanged", withFile(exchanged, "table-5", plainTable(baseTables()[4], 10)))
}

func TestPromise10OpenSeqsOfTables(t *testing.T) {
	for file, l := range baseTables() {
		for i := range l {
			for _, c := range []struct {
				seq  int
				good bool
			}{{12, true}, {13, true}, {30, file == 8 && i == 0}, {31, false}, {32, false}, {33, false}, {1000, false}, {topSeq, false}, {1, file == 3 && i == 0}, {2, file == 3 && i == 1}, {5, file == 4 && i == 0}, {8, file == 5 && i == 2}, {20, file == 8 && i == 1}} {
				changed := copyEntries(l)
				changed[i].Seq = c.seq
				if !impl.GoodEntries(changed) {
					continue
				}
				f := withFile(baseFiles(), tableFile(file), plainTable(changed, 10))
				if !c.good {
					checkNotOpened(t, "a Seq twice, or above the version's", f)
					continue
				}
				want := baseStore()
				want.Files = f
				checkOpen(t, "another Seq", f, want)
			}
		}
	}
}

// One fault is told even where all else is whole, and where there are several.
func TestPromise10OpenSeveralFaults(t *testing.T) {
	f := withoutFile(withoutFile(baseFiles(), "manifest"), "log-9")
	checkNotOpened(t, "neither manifest nor log", f)
	checkNotOpened(t, "no table, no log", withoutFile(withoutFile(baseFiles(), "table-3"), "log-9"))
	checkNotOpened(t, "nothing but tables", withoutFile(f, "table-3"))
	checkNotOpened(t, "other files alone", filesOf(9, fileOf("a", "x", 1), fileOf("b", "", 0)))
}
