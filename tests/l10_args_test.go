package tests

import (
	"bytes"
	"reflect"
	"slices"
	"strings"
	"testing"

	"loop.example/g00150/impl"
)

type badStore struct {
	what  string
	store impl.Store
}

// badStores are other than what their files tell, at one place each.
func badStores() []badStore {
	var out []badStore
	add := func(what string, change func(*impl.Store)) {
		s := baseStore()
		change(&s)
		out = append(out, badStore{what, s})
	}
	for i := range baseStore().Files.Files {
		add("a file that is not all synced", func(s *impl.Store) { s.Files.Files[i].Synced-- })
		add("a file that is not synced", func(s *impl.Store) { s.Files.Files[i].Synced = 0 })
		add("Synced above the length", func(s *impl.Store) { s.Files.Files[i].Synced++ })
		add("a file that is not there", func(s *impl.Store) { s.Files.Files = slices.Delete(s.Files.Files, i, i+1) })
		add("a file without bytes", func(s *impl.Store) { s.Files.Files[i].Data, s.Files.Files[i].Synced = nil, 0 })
		add("a byte that is another one", func(s *impl.Store) { s.Files.Files[i].Data[5] ^= 1 })
		add("a byte more", func(s *impl.Store) {
			s.Files.Files[i].Data = append(s.Files.Files[i].Data, 0)
			s.Files.Files[i].Synced++
		})
		add("a byte more that is not synced", func(s *impl.Store) { s.Files.Files[i].Data = append(s.Files.Files[i].Data, 0) })
		add("another name", func(s *impl.Store) { s.Files.Files[i].Name += "0" })
	}
	for _, name := range []string{"table-7", "table-10", "log-1", "log-10", "table-", "log-"} {
		add("a file that is not named", func(s *impl.Store) { s.Files = withFile(s.Files, name, []byte("any")) })
	}
	add("a file more that is not synced", func(s *impl.Store) {
		s.Files = withFile(s.Files, "other", []byte("any"))
		s.Files.Files[2].Synced--
	})
	used, _ := impl.UsedBytes(baseFiles())
	for _, quota := range append([]int{-1, 0, used - 1, impl.MaxQuota + 1}, farInts()...) {
		add("a quota that is none", func(s *impl.Store) { s.Files.Quota = quota })
	}
	add("no files", func(s *impl.Store) { s.Files = impl.Files{} })
	addOtherVersions(add)
	addOtherMems(add)
	out = append(out, badStore{"nothing at all", impl.Store{}})
	return out
}

func addOtherVersions(add func(what string, change func(*impl.Store))) {
	for _, n := range append([]int{9, 11, 1, 0, -1, topFile}, farInts()...) {
		add("another Next", func(s *impl.Store) { s.Version.Next = n })
	}
	for _, n := range append([]int{7, 1, 2, 8, 0, -1, 10}, farInts()...) {
		add("another Log", func(s *impl.Store) { s.Version.Log = n })
	}
	for _, n := range append([]int{0, 29, 31, 36, -1, topSeq, topSeq + 1}, farInts()...) {
		add("another Seq", func(s *impl.Store) { s.Version.Seq = n })
	}
	for level, metas := range baseStore().Version.Levels {
		for i := range metas {
			add("another File", func(s *impl.Store) { s.Version.Levels[level][i].File++ })
			add("another Least", func(s *impl.Store) { s.Version.Levels[level][i].Least += "0" })
			add("another Most", func(s *impl.Store) { s.Version.Levels[level][i].Most += "0" })
			add("another Many", func(s *impl.Store) { s.Version.Levels[level][i].Many++ })
			add("a meta that is not there", func(s *impl.Store) { s.Version.Levels[level] = slices.Delete(s.Version.Levels[level], i, i+1) })
			add("a meta twice", func(s *impl.Store) {
				s.Version.Levels[level] = append(s.Version.Levels[level], s.Version.Levels[level][i])
			})
		}
		add("a level that is not there", func(s *impl.Store) { s.Version.Levels = slices.Delete(s.Version.Levels, level, level+1) })
		add("an empty level", func(s *impl.Store) { s.Version.Levels[level] = nil })
	}
	add("a level more", func(s *impl.Store) { s.Version.Levels = append(s.Version.Levels, nil) })
	add("no levels", func(s *impl.Store) { s.Version.Levels = nil })
	add("two tables exchanged", func(s *impl.Store) { slices.Reverse(s.Version.Levels[0]) })
	add("two levels exchanged", func(s *impl.Store) {
		s.Version.Levels[1], s.Version.Levels[2] = s.Version.Levels[2], s.Version.Levels[1]
	})
	add("the first version", func(s *impl.Store) { s.Version = impl.FirstVersion() })
	add("no version", func(s *impl.Store) { s.Version = impl.Version{} })
}

func addOtherMems(add func(what string, change func(*impl.Store))) {
	for i, e := range baseStore().Mem {
		add("another Key", func(s *impl.Store) { s.Mem[i].Key += "\x00" })
		add("another Seq", func(s *impl.Store) { s.Mem[i].Seq += 100 })
		add("another Kind", func(s *impl.Store) { s.Mem[i].Kind = s.Mem[i].Kind%3 + 1 })
		add("another Count", func(s *impl.Store) { s.Mem[i].Agg.Count++ })
		add("another Sum", func(s *impl.Store) { s.Mem[i].Agg.Sum++ })
		add("another Min", func(s *impl.Store) { s.Mem[i].Agg.Min-- })
		add("another Max", func(s *impl.Store) { s.Mem[i].Agg.Max++ })
		add("another Full", func(s *impl.Store) { s.Mem[i].Agg.Full = true })
		add("a longer Hist", func(s *impl.Store) { s.Mem[i].Agg.Hist = append(s.Mem[i].Agg.Hist, 0) })
		for j := range e.Agg.Hist {
			add("another number of Hist", func(s *impl.Store) { s.Mem[i].Agg.Hist[j]++ })
		}
		if len(e.Agg.Hist) > 0 {
			add("no Hist", func(s *impl.Store) { s.Mem[i].Agg.Hist = nil })
			add("a shorter Hist", func(s *impl.Store) { s.Mem[i].Agg.Hist = s.Mem[i].Agg.Hist[:7] })
		}
		add("an entry that is not there", func(s *impl.Store) { s.Mem = slices.Delete(s.Mem, i, i+1) })
		add("an entry twice", func(s *impl.Store) { s.Mem = slices.Insert(s.Mem, i, s.Mem[i]) })
		add("an entry more", func(s *impl.Store) { s.Mem = inOrder(append(s.Mem, putOf(s.Mem[i].Key+"0", 50, 1))) })
		if i > 0 {
			add("two entries exchanged", func(s *impl.Store) { s.Mem[i-1], s.Mem[i] = s.Mem[i], s.Mem[i-1] })
		}
	}
	add("no Mem", func(s *impl.Store) { s.Mem = nil })
}

func checkBadStore(t *testing.T, what string, s impl.Store) {
	t.Helper()
	if impl.GoodStore(s) {
		t.Errorf("%s: GoodStore is true", what)
	}
	for _, d := range append(ordinaryDos(), impl.Do{}, packDo(2)) {
		if ops, code := impl.OpsOf(s, d); len(ops) != 0 || code != impl.StoreBad {
			t.Errorf("%s: OpsOf = %v, %d, want none and StoreBad", what, ops, code)
		}
		if got, code := impl.DoStore(s, d); !sameStore(got, impl.Store{}) || code != impl.StoreBad {
			t.Errorf("%s: DoStore = %v, %d, want zero and StoreBad", what, got, code)
		}
		for _, ops := range []int{0, 2, 1000} {
			if got, code := impl.CutStore(s, d, ops, []int{1}); !sameStore(got, impl.Store{}) || code != impl.StoreBad {
				t.Errorf("%s: CutStore = %v, %d, want zero and StoreBad", what, got, code)
			}
		}
	}
	for _, key := range []string{"a", "b", "none", ""} {
		if a, has, ok := impl.GetKey(s, key); has || ok || !sameAgg(a, impl.Agg{}) {
			t.Errorf("%s: GetKey = %v, %v, %v, want zero and false", what, a, has, ok)
		}
	}
	if l, ok := impl.ScanStore(s); len(l) != 0 || ok {
		t.Errorf("%s: ScanStore = %v, %v, want none and false", what, l, ok)
	}
	for _, l := range [][]impl.Do{nil, {flushDo()}, ordinaryDos()} {
		if got, codes, ok := impl.PlayStore(s, l); !sameStore(got, impl.Store{}) || len(codes) != 0 || ok {
			t.Errorf("%s: PlayStore = %v, %v, %v, want zero and false", what, got, codes, ok)
		}
	}
}

func TestPromise13StoresThatAreNotGood(t *testing.T) {
	if !impl.GoodStore(baseStore()) {
		t.Fatal("the store that is changed is not good")
	}
	for _, c := range badStores() {
		checkBadStore(t, c.what, c.store)
	}
	for i, f := range badFiles() {
		if i%3 == 0 {
			checkBadStore(t, "files that are not good", impl.Store{Files: f, Version: impl.FirstVersion()})
		}
	}
	// The store of another quota is another good one, where the quota is enough.
	used, _ := impl.UsedBytes(baseFiles())
	for _, quota := range []int{used, used + 1, impl.MaxQuota - 1} {
		s := baseStore()
		s.Files.Quota = quota
		if !impl.GoodStore(s) {
			t.Errorf("with the quota %d the store is not good", quota)
		}
	}
}

// A store that could be opened but is not as it is opened is not good.
func TestPromise13StoresThatWouldBeOpened(t *testing.T) {
	torn := baseStore()
	torn.Files = withFile(torn.Files, "manifest", append(bytesIn(torn.Files, "manifest"), 1, 2, 3))
	more := baseStore()
	more.Files = withFile(more.Files, "table-77", []byte("x"))
	loose := baseStore()
	loose.Files.Files[0].Synced--
	for _, s := range []impl.Store{torn, more, loose} {
		opened, code := impl.OpenStore(s.Files)
		if code != impl.StoreOk || !sameStore(opened, baseStore()) || !impl.GoodStore(opened) {
			t.Errorf("OpenStore tells %d", code)
		}
		checkBadStore(t, "not as it is opened", s)
	}
}

// badDos break one of the chapter's words each.
func badDos() []impl.Do {
	change := []impl.Change{changeOf(putOf("k", 1, 1))}
	out := []impl.Do{
		{},
		{Kind: impl.DoBatch},
		{Kind: impl.DoBatch, Changes: []impl.Change{}},
		{Kind: impl.DoBatch, Changes: slices.Repeat(change, impl.MaxBatch+1)},
		{Kind: impl.DoBatch, Changes: slices.Repeat(change, 1000)},
		{Kind: impl.DoFlush, Changes: change},
		{Kind: impl.DoPack, Changes: change},
		{Kind: impl.DoPack, Level: 1, Changes: change},
		{Kind: impl.DoFlush, Changes: []impl.Change{{}}},
	}
	for _, n := range append([]int{0, -1, 4, 5, 256 + 1, 1<<32 + 2}, farInts()...) {
		out = append(out, impl.Do{Kind: n}, impl.Do{Kind: n, Changes: change}, impl.Do{Kind: n, Level: 1})
	}
	for _, n := range append([]int{-1, 1, 2, 3, 256, 1 << 32}, farInts()...) {
		out = append(out, impl.Do{Kind: impl.DoBatch, Level: n, Changes: change}, impl.Do{Kind: impl.DoFlush, Level: n})
		if n != 1 {
			out = append(out, packDo(n))
		}
	}
	return out
}

func TestPromise13DosThatAreNotGood(t *testing.T) {
	s := baseStore()
	for _, d := range ordinaryDos() {
		if _, code := impl.DoStore(s, d); code != impl.StoreOk {
			t.Fatalf("DoStore of %v tells %d", d, code)
		}
	}
	for _, d := range badDos() {
		checkRefusedDo(t, "a Do that is not good", s, d)
	}
	for _, d := range badDos()[:20] {
		checkRefusedDo(t, "a Do that is not good", newStore(t, 0), d)
	}
}

func TestPromise13ChangesThatAreNotGood(t *testing.T) {
	s := newStore(t, 5000)
	good := changeOf(putOf("k", 1, 1))
	seen := 0
	for _, c := range badEntries() {
		e := c.entry
		e.Seq = 5
		// What has a bad Seq alone is a good change: a change has none.
		if impl.GoodEntry(e) {
			continue
		}
		seen++
		if seen%3 > 0 && len(e.Key) == 1 && e.Kind != impl.KindDrop {
			continue
		}
		for place := range 3 {
			d := impl.Do{Kind: impl.DoBatch, Changes: []impl.Change{good, good, good}}
			d.Changes[place] = changeOf(e)
			if ops, code := impl.OpsOf(s, d); len(ops) != 0 || code != impl.StoreBad {
				t.Errorf("%s: OpsOf = %v, %d", c.what, ops, code)
			}
			if next, code := impl.DoStore(s, d); !sameStore(next, s) || code != impl.StoreBad {
				t.Errorf("%s: DoStore = %v, %d", c.what, next, code)
			}
		}
		checkRefusedDo(t, c.what, s, batchOf(e))
	}
	if seen < 100 {
		t.Errorf("%d changes are not good", seen)
	}
}

// looseFiles have memory behind each length, and tells whether all of it stayed.
func looseFiles(f impl.Files) (impl.Files, func() bool) {
	list := append(copyFiles(f).Files, fileOf("zz-behind", "x", 7), fileOf("B", "", -1))
	for i := range list {
		list[i].Data = append(list[i].Data, "behind"...)
	}
	kept := copyFiles(impl.Files{Files: list})
	for i := range list {
		list[i].Data = list[i].Data[:len(list[i].Data)-6]
	}
	heads := slices.Clone(list)
	f.Files = list[:len(f.Files)]
	return f, func() bool {
		for i, file := range list {
			if file.Name != heads[i].Name || file.Synced != heads[i].Synced || len(file.Data) != len(heads[i].Data) {
				return false
			}
			if !bytes.Equal(heads[i].Data[:len(heads[i].Data)+6], kept.Files[i].Data) || !bytes.Equal(file.Data, heads[i].Data) {
				return false
			}
		}
		return true
	}
}

func looseStore(s impl.Store) (impl.Store, func() bool) {
	files, filesStay := looseFiles(s.Files)
	version, versionStays := looseVersion(s.Version)
	mem, memStays := looseEntries(s.Mem)
	return impl.Store{Files: files, Version: version, Mem: mem}, func() bool {
		return filesStay() && versionStays() && memStays()
	}
}

func looseDo(d impl.Do) (impl.Do, func() bool) {
	var l []impl.Entry
	for _, c := range d.Changes {
		l = append(l, impl.Entry{Key: c.Key, Kind: c.Kind, Agg: c.Agg})
	}
	row, stayed := looseEntries(l)
	changes := batchOf(row[:len(row)+2]...).Changes
	kept := slices.Clone(changes)
	d.Changes = changes[:len(l)]
	return d, func() bool {
		return stayed() && reflect.DeepEqual(changes, kept)
	}
}

func checkNothingBehindStore(t *testing.T, s impl.Store) {
	t.Helper()
	list := s.Files.Files
	for _, file := range list {
		checkNoughtsBehind(t, "a file", file.Data)
	}
	for _, file := range list[len(list):cap(list)] {
		if file.Name != "" || file.Data != nil || file.Synced != 0 {
			t.Fatalf("behind the files lies %v", file)
		}
	}
	checkNothingBehindVersion(t, s.Version)
	checkNothingBehindEntries(t, s.Mem)
}

func checkNothingBehindOps(t *testing.T, ops []impl.FileOp) {
	t.Helper()
	for _, op := range ops {
		checkNoughtsBehind(t, "an operation", op.Data)
	}
	for _, op := range ops[len(ops):cap(ops)] {
		if op.Kind != 0 || op.Name != "" || op.Data != nil {
			t.Fatalf("behind the operations lies %v", op)
		}
	}
}

func givenStores(t *testing.T) []impl.Store {
	out := []impl.Store{
		baseStore(), newStore(t, 0), newStore(t, 5000),
		storeWith(t, putsFrom("m", 25, 900), [][]impl.Entry{putsFrom("k", 30, 100), joinsTimes(15, 200)}, [][]impl.Entry{putsFrom("a", 25, 300)}),
	}
	for i, c := range badStores() {
		if i%20 == 0 {
			out = append(out, c.store)
		}
	}
	return out
}

func givenDos() []impl.Do {
	return append(ordinaryDos(), badDos()[:12]...)
}

// eachStoreCall does every call of the chapter on a store, and hands out what is answered.
func eachStoreCall(s impl.Store, dos []impl.Do, draws []int, see func(what string, s impl.Store, ops []impl.FileOp, l []impl.Entry, n []int)) {
	impl.GoodStore(s)
	opened, _ := impl.OpenStore(s.Files)
	see("OpenStore", opened, nil, nil, nil)
	for _, d := range dos {
		ops, _ := impl.OpsOf(s, d)
		see("OpsOf", impl.Store{}, ops, nil, nil)
		next, _ := impl.DoStore(s, d)
		see("DoStore", next, nil, nil, nil)
		for _, many := range []int{0, 1, 3, 5, 1000} {
			cut, _ := impl.CutStore(s, d, many, draws)
			see("CutStore", cut, nil, nil, nil)
		}
	}
	for _, key := range []string{"a", "b", "k00", "none"} {
		a, _, _ := impl.GetKey(s, key)
		see("GetKey", impl.Store{}, nil, []impl.Entry{{Agg: a}}, nil)
	}
	live, _ := impl.ScanStore(s)
	see("ScanStore", impl.Store{}, nil, live, nil)
	for _, many := range []int{0, 1, len(dos)} {
		played, codes, _ := impl.PlayStore(s, dos[:many])
		see("PlayStore", played, nil, nil, codes)
	}
}

func TestPromise13StoreArgumentsStay(t *testing.T) {
	for _, given := range givenStores(t) {
		s, stayed := looseStore(given)
		var dos []impl.Do
		var same []func() bool
		for _, d := range givenDos() {
			loose, stays := looseDo(d)
			dos, same = append(dos, loose), append(same, stays)
		}
		draws := []int{5, 3, 9, -77, 77}
		heads := slices.Clone(dos)
		eachStoreCall(s, dos, draws[:2], func(what string, got impl.Store, ops []impl.FileOp, l []impl.Entry, n []int) {
			if !stayed() || !slices.Equal(draws, []int{5, 3, 9, -77, 77}) || !reflect.DeepEqual(dos, heads) {
				t.Fatalf("%s wrote into its arguments", what)
			}
			checkNothingBehindStore(t, got)
			checkNothingBehindOps(t, ops)
			checkNothingBehindEntries(t, l)
			checkNoughtsBehind(t, what, n)
		})
		for _, stays := range same {
			if !stays() {
				t.Fatal("a Do is written into")
			}
		}
	}
}

type storeAnswer struct {
	what  string
	store impl.Store
	ops   []impl.FileOp
	list  []impl.Entry
	codes []int
}

func answersOf(s impl.Store, dos []impl.Do, draws []int) []storeAnswer {
	var out []storeAnswer
	eachStoreCall(s, dos, draws, func(what string, s impl.Store, ops []impl.FileOp, l []impl.Entry, n []int) {
		out = append(out, storeAnswer{what, s, ops, l, n})
	})
	return out
}

func sameAnswer(a storeAnswer, b storeAnswer) bool {
	return a.what == b.what && sameStore(a.store, b.store) && sameOps(a.ops, b.ops) && sameEntries(a.list, b.list) && slices.Equal(a.codes, b.codes)
}

// What lies behind the lengths is not looked at.
func TestPromise13NothingBehindLengthsOfStores(t *testing.T) {
	for _, given := range givenStores(t) {
		s, _ := looseStore(given)
		var dos []impl.Do
		for _, d := range givenDos() {
			loose, _ := looseDo(d)
			dos = append(dos, loose)
		}
		got, want := answersOf(s, dos, []int{4, 2, 9}[:2]), answersOf(given, givenDos(), []int{4, 2})
		for i := range want {
			if !sameAnswer(got[i], want[i]) {
				t.Fatalf("%s hangs on what lies behind: %v, want %v", want[i].what, got[i], want[i])
			}
		}
	}
}

// fillApart writes another byte into all the memory of each list, and tells whether
// one's writing was not seen in another.
func fillApart(lists [][]byte) bool {
	for i, b := range lists {
		whole := b[:cap(b)]
		for j := range whole {
			whole[j] = byte(i + 1)
		}
	}
	for i, b := range lists {
		for _, c := range b[:cap(b)] {
			if c != byte(i+1) {
				return false
			}
		}
	}
	return true
}

func fillStore(s impl.Store) bool {
	var lists [][]byte
	for _, file := range s.Files.Files {
		lists = append(lists, file.Data)
	}
	whole := fillApart(lists)
	fillFiles(s.Files)
	return fillVersion(s.Version) && fillEntries(s.Mem) && whole
}

func fillOps(ops []impl.FileOp) bool {
	var lists [][]byte
	for _, op := range ops {
		lists = append(lists, op.Data)
	}
	whole := fillApart(lists)
	for i := range ops {
		ops[i] = impl.FileOp{Kind: -1, Name: "spoiled"}
	}
	return whole
}

func TestPromise13StoreAnswersAreNew(t *testing.T) {
	for _, given := range givenStores(t) {
		s, dos, draws := copyStore(given), givenDos(), []int{4, 2}
		want := answersOf(given, givenDos(), draws)
		for _, a := range answersOf(s, dos, draws) {
			if !fillStore(a.store) || !fillOps(a.ops) || !fillEntries(a.list) {
				t.Fatalf("%s: two lists of one answer share memory", a.what)
			}
			for i := range a.codes {
				a.codes[i] = -9
			}
			if !sameStore(s, given) || !reflect.DeepEqual(dos, givenDos()) || !slices.Equal(draws, []int{4, 2}) {
				t.Fatalf("%s: the answer shares memory with an argument", a.what)
			}
		}
		got := answersOf(s, dos, draws)
		fillStore(s)
		for _, d := range dos {
			for i := range d.Changes {
				fillHist(d.Changes[i].Agg)
				d.Changes[i] = impl.Change{Key: "spoiled"}
			}
		}
		clear(draws)
		for i := range want {
			if !sameAnswer(got[i], want[i]) {
				t.Fatalf("%s: the answer changed with its arguments", want[i].what)
			}
		}
	}
}

// Changes and entries that share a Hist must not share it in an answer.
func TestPromise13ChangesThatShareAHist(t *testing.T) {
	a := manyOf(1, 5, 2)
	d := impl.Do{Kind: impl.DoBatch, Changes: []impl.Change{{Key: "a", Kind: impl.KindPut, Agg: a}, {Key: "b", Kind: impl.KindPut, Agg: a}, {Key: "b", Kind: impl.KindJoin, Agg: a}}}
	s, code := impl.DoStore(newStore(t, 1000), d)
	if code != impl.StoreOk || !impl.GoodStore(s) {
		t.Fatalf("DoStore tells %d", code)
	}
	if l, ok := impl.ScanStore(s); !ok || !fillEntries(l) {
		t.Error("two lists of ScanStore's answer share memory")
	}
	if !fillStore(copyStore(s)) || !fillStore(s) || !sameAgg(a, manyOf(1, 5, 2)) {
		t.Error("two lists of DoStore's answer share memory")
	}
}

func TestPromise13NewStoresAreNew(t *testing.T) {
	one, other := newStore(t, 100), newStore(t, 100)
	one.Files.Files[0].Data = append(one.Files.Files[0].Data, 1, 2, 3)
	one.Files.Files[1].Data = append(one.Files.Files[1].Data, 4, 5, 6)
	one.Version.Levels[0] = append(one.Version.Levels[0], metaOf(1, "a", "b"))
	if !bytes.Equal(one.Files.Files[0].Data, []byte{1, 2, 3}) || len(one.Version.Levels[1]) != 0 {
		t.Error("two lists of a new store share memory")
	}
	fillStore(one)
	if !impl.GoodStore(other) || !impl.GoodStore(newStore(t, 100)) {
		t.Error("two new stores share memory")
	}
}

// Any key is answered of a good store.
func TestPromise13AnyKeyOfAStore(t *testing.T) {
	for _, key := range []string{"", "\x00", "\xff", strings.Repeat("k", 140), strings.Repeat("k", 141), strings.Repeat("k", 100000), "a\x00", "é"} {
		for _, s := range []impl.Store{baseStore(), newStore(t, 0)} {
			if a, has, ok := impl.GetKey(s, key); has || !ok || !sameAgg(a, impl.Agg{}) {
				t.Errorf("GetKey(%.20q) = %v, %v, %v, want nothing and true", key, a, has, ok)
			}
		}
	}
}
