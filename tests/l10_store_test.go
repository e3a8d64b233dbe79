package tests

import (
	"bytes"
	"slices"
	"strconv"
	"strings"
	"testing"

	"loop.example/g00150/impl"
)

func sameStore(a impl.Store, b impl.Store) bool {
	return sameFiles(a.Files, b.Files) && sameVersion(a.Version, b.Version) && sameEntries(a.Mem, b.Mem)
}

func copyFiles(f impl.Files) impl.Files {
	list := slices.Clone(f.Files)
	for i := range list {
		list[i].Data = slices.Clone(list[i].Data)
	}
	f.Files = list
	return f
}

func copyStore(s impl.Store) impl.Store {
	return impl.Store{Files: copyFiles(s.Files), Version: copyVersion(s.Version), Mem: copyEntries(s.Mem)}
}

func logFile(n int) string {
	return "log-" + strconv.Itoa(n)
}

func tableFile(n int) string {
	return "table-" + strconv.Itoa(n)
}

// withFile has these bytes, all synced, under the name, in its place.
func withFile(f impl.Files, name string, data []byte) impl.Files {
	out := withoutFile(f, name)
	out.Files = append(out.Files, impl.File{Name: name, Data: slices.Clone(data), Synced: len(data)})
	slices.SortFunc(out.Files, func(a impl.File, b impl.File) int { return strings.Compare(a.Name, b.Name) })
	return out
}

func withoutFile(f impl.Files, name string) impl.Files {
	out := copyFiles(f)
	out.Files = slices.DeleteFunc(out.Files, func(file impl.File) bool { return file.Name == name })
	return out
}

func bytesIn(f impl.Files, name string) []byte {
	for _, file := range f.Files {
		if file.Name == name {
			return slices.Clone(file.Data)
		}
	}
	return nil
}

// batchParts are the parts of a batch's bytes, one for each number, kind, text and
// agg, without asking whether it is good.
func batchParts(l []impl.Entry) [][]byte {
	parts := [][]byte{varOf(len(l))}
	for _, e := range l {
		var agg []byte
		if e.Kind != impl.KindDrop || len(e.Agg.Hist) > 0 {
			agg = plainAggBytes(e.Agg)
		}
		parts = append(parts, []byte{byte(e.Kind)}, varOf(len(e.Key)), []byte(e.Key), varOf(e.Seq), varOf(len(agg)), agg)
	}
	return parts
}

func plainBatch(l ...impl.Entry) []byte {
	return bytes.Join(batchParts(l), nil)
}

// storeFiles are the files of a store as the chapter tells them, all synced.
func storeFiles(log int, edits []impl.Edit, batches [][]impl.Entry, tables map[int][]impl.Entry) impl.Files {
	var told, written [][]byte
	for _, e := range edits {
		told = append(told, plainEditBytes(e))
	}
	for _, l := range batches {
		written = append(written, plainBatch(l...))
	}
	manifest, _ := plainLog(told)
	batch, _ := plainLog(written)
	f := withFile(impl.Files{Quota: impl.MaxQuota}, "manifest", manifest)
	f = withFile(f, logFile(log), batch)
	for file, l := range tables {
		f = withFile(f, tableFile(file), plainTable(l, 10))
	}
	return f
}

// metaFor is the meta of a table of these entries.
func metaFor(file int, l []impl.Entry) impl.Meta {
	return impl.Meta{File: file, Least: l[0].Key, Most: l[len(l)-1].Key, Many: len(l)}
}

func addFor(level int, file int, l []impl.Entry) impl.Add {
	return impl.Add{Level: level, Meta: metaFor(file, l)}
}

// baseTables have keys on several levels, Seqs from 1 to 30 and none twice.
func baseTables() map[int][]impl.Entry {
	return map[int][]impl.Entry{
		3: {putOf("a", 1, 5), putOf("g", 2, 6)},
		4: {joinOf("a", 5, 1), dropOf("c", 4)},
		5: {putOf("m", 6, 9), joinOf("p", 7, 2), dropOf("q", 8)},
		6: {putOf("b", 11, 3), dropOf("g", 10)},
		8: {joinOf("a", 30, 3), joinOf("z", 20, 1), putOf("z", 19, 4)},
	}
}

func baseEdits() []impl.Edit {
	tables := baseTables()
	return []impl.Edit{
		{Next: 4, Log: 2, Seq: 2, Adds: []impl.Add{addFor(2, 3, tables[3])}},
		{Next: 6, Log: 2, Seq: 8, Adds: []impl.Add{addFor(1, 5, tables[5]), addFor(1, 4, tables[4])}},
		{Next: 8, Log: 7, Seq: 11, Adds: []impl.Add{addFor(0, 6, tables[6])}},
		{Next: 10, Log: 9, Seq: 30, Adds: []impl.Add{addFor(0, 8, tables[8])}},
	}
}

func baseBatches() [][]impl.Entry {
	return [][]impl.Entry{
		{joinOf("a", 31, 7), dropOf("m", 32)},
		{putOf("m", 33, 8)},
		{joinOf("x", 34, -4), joinOf("x", 35, 5), putOf("b", 36, 100000)},
	}
}

// baseFiles are those of an ordinary store.
func baseFiles() impl.Files {
	return storeFiles(9, baseEdits(), baseBatches(), baseTables())
}

// baseStore is what baseFiles are opened as.
func baseStore() impl.Store {
	tables := baseTables()
	return impl.Store{
		Files: baseFiles(),
		Version: versionOf(10, 9, 30,
			[]impl.Meta{metaFor(6, tables[6]), metaFor(8, tables[8])},
			[]impl.Meta{metaFor(4, tables[4]), metaFor(5, tables[5])},
			[]impl.Meta{metaFor(3, tables[3])}),
		Mem: []impl.Entry{
			joinOf("a", 31, 7), putOf("b", 36, 100000), putOf("m", 33, 8), dropOf("m", 32), joinOf("x", 35, 5), joinOf("x", 34, -4),
		},
	}
}

func checkOpen(t *testing.T, what string, f impl.Files, want impl.Store) {
	t.Helper()
	got, code := impl.OpenStore(f)
	if code != impl.StoreOk || !sameStore(got, want) {
		t.Fatalf("%s: OpenStore = %v, %d, want %v", what, got, code, want)
	}
	if !impl.GoodStore(got) {
		t.Fatalf("%s: what is opened is not good: %v", what, got)
	}
	again, code := impl.OpenStore(got.Files)
	if code != impl.StoreOk || !sameStore(again, got) {
		t.Fatalf("%s: opened again it is %v, %d", what, again, code)
	}
}

func checkNotOpened(t *testing.T, what string, f impl.Files) {
	t.Helper()
	if s, code := impl.OpenStore(f); code != impl.StoreBad || !sameStore(s, impl.Store{}) {
		t.Errorf("%s: OpenStore = %v, %v, %d, want zero and StoreBad", what, s.Version, s.Mem, code)
	}
}

func mustOpen(t *testing.T, f impl.Files) impl.Store {
	t.Helper()
	s, code := impl.OpenStore(f)
	if code != impl.StoreOk {
		t.Fatalf("OpenStore(%v) tells %d", f, code)
	}
	return s
}

func newStore(t *testing.T, quota int) impl.Store {
	t.Helper()
	s, ok := impl.NewStore(quota)
	if !ok {
		t.Fatalf("NewStore(%d) is false", quota)
	}
	return s
}

func TestPromise10Constants(t *testing.T) {
	if impl.MaxBatch != 10 || impl.MaxPiece != 20 || impl.FilterBits != 10 {
		t.Error("a limit is another one")
	}
	if !slices.Equal([]int{impl.DoBatch, impl.DoFlush, impl.DoPack}, []int{1, 2, 3}) {
		t.Error("a kind of Do is another one")
	}
	if !slices.Equal([]int{impl.StoreOk, impl.StoreBad, impl.StoreNone, impl.StoreMem, impl.StoreBig, impl.StoreFull}, []int{0, 1, 2, 3, 4, 5}) {
		t.Error("a code is another one")
	}
	if !slices.Equal([]int{impl.OpCreate, impl.OpAppend, impl.OpSync, impl.OpRemove}, []int{1, 2, 3, 4}) {
		t.Error("a kind of operation is another one")
	}
}

func TestPromise10NewStores(t *testing.T) {
	for _, quota := range []int{0, 1, 2, 5000, impl.MaxQuota - 1, impl.MaxQuota} {
		s, ok := impl.NewStore(quota)
		want := impl.Store{Files: filesOf(quota, fileOf("log-1", "", 0), fileOf("manifest", "", 0)), Version: versionOf(2, 1, 0)}
		if !ok || !sameStore(s, want) || !impl.GoodStore(s) {
			t.Errorf("NewStore(%d) = %v, %v, want %v", quota, s, ok, want)
		}
		checkOpen(t, "a new one", s.Files, want)
		if l, ok := impl.ScanStore(s); len(l) != 0 || !ok {
			t.Errorf("a new store tells %v, %v", l, ok)
		}
	}
}

func TestPromise13QuotasThatAreNone(t *testing.T) {
	for _, quota := range append([]int{-1, -2, impl.MaxQuota + 1, impl.MaxQuota + 2, -impl.MaxQuota, 1<<32 + 5}, farInts()...) {
		if s, ok := impl.NewStore(quota); ok || !sameStore(s, impl.Store{}) {
			t.Errorf("NewStore(%d) = %v, %v, want zero and false", quota, s, ok)
		}
	}
}

func TestPromise10OpenAnOrdinaryStore(t *testing.T) {
	checkOpen(t, "an ordinary one", baseFiles(), baseStore())
}

// A version that no table is of, and one whose log has nothing, are whole stores.
func TestPromise10OpenSmallStores(t *testing.T) {
	empty := storeFiles(1, nil, nil, nil)
	checkOpen(t, "nothing written", empty, impl.Store{Files: empty, Version: versionOf(2, 1, 0)})
	one := storeFiles(1, nil, [][]impl.Entry{{putOf("k", 1, 1)}}, nil)
	checkOpen(t, "one batch", one, impl.Store{Files: one, Version: versionOf(2, 1, 0), Mem: []impl.Entry{putOf("k", 1, 1)}})
	l := []impl.Entry{putOf("k", 1, 1)}
	table := storeFiles(3, []impl.Edit{{Next: 4, Log: 3, Seq: 1, Adds: []impl.Add{addFor(0, 2, l)}}}, nil, map[int][]impl.Entry{2: l})
	checkOpen(t, "one table", table, impl.Store{Files: table, Version: versionOf(4, 3, 1, []impl.Meta{metaFor(2, l)})})
	gone := storeFiles(3, []impl.Edit{{Next: 4, Log: 3, Seq: 1, Adds: []impl.Add{addFor(0, 2, l)}}, {Next: 4, Log: 3, Seq: 1, Drops: []int{2}}}, nil, nil)
	checkOpen(t, "a table that was dropped", gone, impl.Store{Files: gone, Version: versionOf(4, 3, 1)})
}

// A manifest may hold more edits than ReplayEdits takes.
func TestPromise10OpenManyEdits(t *testing.T) {
	for _, many := range []int{mostEdits, mostEdits + 1, 200, 900} {
		var edits []impl.Edit
		for i := range many {
			edits = append(edits, impl.Edit{Next: 2 + i, Log: 1 + i, Seq: i})
		}
		f := storeFiles(many, edits, [][]impl.Entry{{putOf("k", many, 1)}}, nil)
		checkOpen(t, "many edits", f, impl.Store{Files: f, Version: versionOf(many+1, many, many-1), Mem: []impl.Entry{putOf("k", many, 1)}})
	}
}

// Tables may be of any perKey: chapter 7 takes them all.
func TestPromise10OpenTablesOfAnyPerKey(t *testing.T) {
	for _, perKey := range []int{1, 9, 11, 20} {
		f := baseFiles()
		for file, l := range baseTables() {
			f = withFile(f, tableFile(file), plainTable(l, perKey))
		}
		want := baseStore()
		want.Files = f
		checkOpen(t, "another perKey", f, want)
	}
}

// The batches of a log may tell their Seqs in any order.
func TestPromise10OpenBatchesInAnyOrder(t *testing.T) {
	eachOrder(baseBatches(), 0, func(batches [][]impl.Entry) {
		f := storeFiles(9, baseEdits(), batches, baseTables())
		want := baseStore()
		want.Files = f
		checkOpen(t, "in another order", f, want)
	})
}

func TestPromise10OpenCutsATornManifest(t *testing.T) {
	f, want := baseFiles(), baseStore()
	manifest := bytesIn(f, "manifest")
	l := []impl.Entry{putOf("y", 9, 1)}
	next := plainPieces(len(manifest), plainEditBytes(impl.Edit{Next: 12, Log: 9, Seq: 30, Drops: []int{6}, Adds: []impl.Add{addFor(0, 10, l)}}))
	f = withFile(f, "table-10", plainTable(l, 10))
	for cut := range next {
		torn := withFile(f, "manifest", slices.Concat(manifest, next[:cut]))
		checkOpen(t, "a torn edit", torn, want)
		torn = withFile(f, "manifest", slices.Concat(manifest, next[:cut], []byte{255}, next[cut:]))
		checkOpen(t, "an edit with a byte more", torn, want)
	}
	whole := withFile(f, "manifest", slices.Concat(manifest, next))
	want.Files = withoutFile(whole, "table-6")
	want.Version = versionOf(12, 9, 30, []impl.Meta{want.Version.Levels[0][1], metaFor(10, l)}, want.Version.Levels[1], want.Version.Levels[2])
	checkOpen(t, "a whole edit", whole, want)
}

func TestPromise10OpenCutsATornLog(t *testing.T) {
	f, want := baseFiles(), baseStore()
	log := bytesIn(f, "log-9")
	next := plainPieces(len(log), plainBatch(putOf("y", 37, 1), dropOf("a", 38), joinOf("long key, so that it is in pieces", 39, 123456)))
	for cut := range next {
		checkOpen(t, "a torn batch", withFile(f, "log-9", slices.Concat(log, next[:cut])), want)
		checkOpen(t, "a batch with a byte more", withFile(f, "log-9", slices.Concat(log, next[:cut], []byte{255}, next[cut:])), want)
	}
	// What is behind the torn batch is not looked at, even if it is whole.
	behind := plainPieces(len(log)+len(next), plainBatch(putOf("y", 40, 1)))
	next[0]++
	checkOpen(t, "a torn batch with one behind", withFile(f, "log-9", slices.Concat(log, next, behind)), want)
	next[0]--
	want.Files = withFile(f, "log-9", slices.Concat(log, next))
	want.Mem = inOrder(append(want.Mem, putOf("y", 37, 1), dropOf("a", 38), joinOf("long key, so that it is in pieces", 39, 123456)))
	checkOpen(t, "a whole batch", want.Files, want)
}

// What is torn goes at every place of the first record too.
func TestPromise10OpenCutsAFirstRecord(t *testing.T) {
	l := []impl.Entry{putOf("k", 1, 1)}
	edit := plainPieces(0, plainEditBytes(impl.Edit{Next: 4, Log: 3, Seq: 1, Adds: []impl.Add{addFor(0, 2, l)}}))
	batch := plainPieces(0, plainBatch(l...))
	f := withFile(storeFiles(1, nil, nil, map[int][]impl.Entry{2: l}), "log-3", nil)
	empty := impl.Store{Files: storeFiles(1, nil, nil, nil), Version: versionOf(2, 1, 0)}
	for cut := range edit {
		checkOpen(t, "a torn first edit", withFile(f, "manifest", edit[:cut]), empty)
	}
	for cut := range batch {
		checkOpen(t, "a torn first batch", withFile(f, "log-1", batch[:cut]), empty)
	}
	want := impl.Store{Files: withFile(withoutFile(f, "log-1"), "manifest", edit), Version: versionOf(4, 3, 1, []impl.Meta{metaFor(2, l)})}
	checkOpen(t, "a whole first edit", withFile(f, "manifest", edit), want)
}

func TestPromise10OpenSyncsAllFiles(t *testing.T) {
	want := baseStore()
	want.Files = withFile(withFile(want.Files, "a", []byte("some bytes")), "z-z", []byte("more"))
	for name := range len(want.Files.Files) {
		for _, loose := range []int{1, 2, 4} {
			f := copyFiles(want.Files)
			f.Files[name].Synced -= loose
			checkOpen(t, "a file with loose bytes", f, want)
		}
	}
	f := copyFiles(want.Files)
	for i := range f.Files {
		f.Files[i].Synced = 0
	}
	checkOpen(t, "no file is synced", f, want)
}

func TestPromise10OpenRemovesWhatIsNotNamed(t *testing.T) {
	leave := []string{
		"log-", "log-0", "log-1", "log-7", "log-8", "log-10", "log-09", "log-9-", "log-90", "log--9", "log-a", "log-manifest",
		"table-", "table-0", "table-1", "table-2", "table-7", "table-9", "table-10", "table-03", "table-3-", "table-33", "table-a", "table--3",
	}
	stay := []string{"a", "log", "log9", "logs-1", "logs", "table", "table3", "tables-3", "tabl", "manifest-", "manifest-2", "manifes", "x-log-9", "-log-1", "xtable-4", "0", "z"}
	for i, name := range append(slices.Clone(leave), stay...) {
		for _, data := range []string{"", "any bytes"} {
			want := baseStore()
			f := withFile(baseFiles(), name, []byte(data))
			if i >= len(leave) {
				want.Files = f
			}
			checkOpen(t, name, f, want)
			if len(data) > 0 {
				loose := copyFiles(f)
				for j := range loose.Files {
					loose.Files[j].Synced = 0
				}
				checkOpen(t, name+", not synced", loose, want)
			}
		}
	}
	want, f := baseStore(), baseFiles()
	for _, name := range leave {
		f = withFile(f, name, []byte("xyz"))
	}
	for _, name := range stay[:9] {
		f = withFile(f, name, []byte("xyz"))
		want.Files = withFile(want.Files, name, []byte("xyz"))
	}
	checkOpen(t, "all of them", f, want)
}

func TestPromise10GoodStores(t *testing.T) {
	for _, s := range []impl.Store{baseStore(), newStore(t, 0), newStore(t, impl.MaxQuota)} {
		if !impl.GoodStore(s) {
			t.Errorf("%v is not good", s)
		}
	}
	// The empty list and the nil list are the same value.
	s := newStore(t, 10)
	s.Mem = []impl.Entry{}
	s.Version.Levels = [][]impl.Meta{{}, {}, {}}
	for i := range s.Files.Files {
		s.Files.Files[i].Data = []byte{}
	}
	if !impl.GoodStore(s) {
		t.Errorf("with empty lists for nil ones %v is not good", s)
	}
	s = baseStore()
	for i, e := range s.Mem {
		if e.Kind == impl.KindDrop {
			s.Mem[i].Agg.Hist = []int{}
		}
	}
	if !impl.GoodStore(s) {
		t.Errorf("with an empty Hist for none %v is not good", s)
	}
}
