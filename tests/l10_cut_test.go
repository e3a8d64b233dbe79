package tests

import (
	"math"
	"math/rand"
	"slices"
	"testing"

	"loop.example/g00150/impl"
)

// commitOf is the place of the operation whose bytes decide: put behind log or manifest.
func commitOf(t *testing.T, ops []impl.FileOp) int {
	t.Helper()
	place := slices.IndexFunc(ops, func(op impl.FileOp) bool {
		return op.Kind == impl.OpAppend && (op.Name == "manifest" || op.Name[:4] == "log-")
	})
	if place < 0 || ops[place+1].Kind != impl.OpSync || ops[place+1].Name != ops[place].Name {
		t.Fatalf("nothing decides in %v", ops)
	}
	return place
}

// checkCut holds one cut to the chapter's words: it is what was, or what was to be,
// and which of them hangs on what stays of the bytes that decide.
func checkCut(t *testing.T, what string, s impl.Store, d impl.Do, many int, draws []int) {
	t.Helper()
	plan := planOf(s, d)
	got, code := impl.CutStore(s, d, many, draws)
	ops := plan.ops[:min(many, len(plan.ops))]
	files, _ := runOps(s.Files, ops)
	crashed, _ := impl.CrashFiles(files, draws)
	want, wantCode := impl.OpenStore(crashed)
	if code != wantCode || code != impl.StoreOk || !sameStore(got, want) || !impl.GoodStore(got) {
		t.Fatalf("%s: CutStore(%d, %v) = %v, %d, want %v, %d", what, many, draws, got, code, want, wantCode)
	}
	next := s
	if plan.code == impl.StoreOk {
		commit := commitOf(t, plan.ops)
		whole := len(bytesIn(files, plan.ops[commit].Name)) == len(bytesIn(crashed, plan.ops[commit].Name))
		if many > commit+1 || many == commit+1 && whole {
			next = plan.next
		}
	}
	if !sameStore(got, next) {
		t.Fatalf("%s: CutStore(%d, %v) = %v, %v, want %v, %v", what, many, draws, got.Version, got.Mem, next.Version, next.Mem)
	}
	before, _ := impl.ScanStore(s)
	after, _ := impl.ScanStore(plan.next)
	if l, ok := impl.ScanStore(got); !ok || !sameEntries(l, before) && !sameEntries(l, after) {
		t.Fatalf("%s: CutStore(%d, %v) tells %v", what, many, draws, l)
	}
}

func TestPromise10CutAtEachOperation(t *testing.T) {
	for i, s := range []impl.Store{baseStore(), storeWith(t, putsFrom("m", 25, 900), [][]impl.Entry{putsFrom("k", 30, 100), joinsTimes(15, 200)}, [][]impl.Entry{putsFrom("a", 25, 300)}, [][]impl.Entry{{putOf("a05", 5, 1)}})} {
		for _, d := range ordinaryDos() {
			ops, code := impl.OpsOf(s, d)
			if code != impl.StoreOk {
				t.Fatalf("OpsOf(%v) tells %d", d, code)
			}
			for many := range len(ops) + 3 {
				for _, draws := range [][]int{nil, {0}, {1}, {-1}, {3}, {7, 5}, {100}, {1000000007, 3, 9}, {math.MinInt}, {math.MaxInt, -5}} {
					checkCut(t, "store "+string([]byte{'0' + byte(i)}), s, d, many, draws)
				}
			}
			for _, many := range []int{100, 999, 1000} {
				checkCut(t, "all operations", s, d, many, []int{2})
			}
		}
	}
}

// Each number of bytes that may stay of what decides is drawn once.
func TestPromise10CutAtEachByte(t *testing.T) {
	s := baseStore()
	for _, d := range ordinaryDos() {
		ops, _ := impl.OpsOf(s, d)
		commit := commitOf(t, ops)
		loose := len(ops[commit].Data)
		kept := 0
		for draw := range loose + 2 {
			checkCut(t, "a byte more", s, d, commit+1, []int{draw})
			got, _ := impl.CutStore(s, d, commit+1, []int{draw})
			if !sameStore(got, s) {
				kept++
			}
		}
		if kept != 1 {
			t.Errorf("of %v %d draws keep all", d, kept)
		}
		// Ahead of that a table may be torn: nothing names it then.
		for many := range commit {
			for draw := range 30 {
				checkCut(t, "a torn table", s, d, many+1, []int{draw * 3})
			}
		}
	}
}

// Where DoStore tells a code nothing is done ahead of the crash.
func TestPromise10CutOfWhatIsRefused(t *testing.T) {
	small := baseStore()
	small.Files.Quota, _ = impl.UsedBytes(small.Files)
	for _, c := range []struct {
		s    impl.Store
		d    impl.Do
		code int
	}{
		{newStore(t, 100), flushDo(), impl.StoreNone},
		{newStore(t, 100), packDo(0), impl.StoreNone},
		{newStore(t, 100), packDo(1), impl.StoreNone},
		{storeWith(t, putsFrom("k", 60, 100)), batchOf(putOf("k", 0, 1)), impl.StoreMem},
		{newStore(t, 5000), batchOf(longChanges(t, 2001)...), impl.StoreBig},
		{storeWith(t, longEntries(t, 8001)), flushDo(), impl.StoreBig},
		{storeWith(t, nil, manyTables("k", 12, 100), [][]impl.Entry{between("a", "z", 10)}), packDo(0), impl.StoreBig},
		{small, batchOf(putOf("k", 0, 1)), impl.StoreFull},
		{small, flushDo(), impl.StoreFull},
		{small, packDo(0), impl.StoreFull},
		{small, packDo(1), impl.StoreFull},
	} {
		if _, code := impl.DoStore(c.s, c.d); code != c.code {
			t.Fatalf("DoStore tells %d, want %d", code, c.code)
		}
		for _, many := range []int{0, 1, 2, 5, 1000} {
			for _, draws := range [][]int{nil, {1}, {-1, 5}} {
				if got, code := impl.CutStore(c.s, c.d, many, draws); code != impl.StoreOk || !sameStore(got, c.s) {
					t.Errorf("CutStore of what tells %d = %v, %d, want the same", c.code, got, code)
				}
			}
		}
	}
}

// What was written ahead of a batch that is cut stays, whatever is cut, and so does
// what is written behind it.
func TestPromise10WriteBehindACut(t *testing.T) {
	for _, d := range ordinaryDos() {
		ops, _ := impl.OpsOf(baseStore(), d)
		for many := range len(ops) + 1 {
			for draw := range 12 {
				s, _ := impl.CutStore(baseStore(), d, many, []int{draw * 5})
				for range 3 {
					s = checkDo(t, "behind a cut", s, batchOf(putOf("new", 0, draw)), impl.StoreOk)
				}
				s = checkDo(t, "behind a cut", s, flushDo(), impl.StoreOk)
				s = checkDo(t, "behind a cut", s, packDo(0), impl.StoreOk)
				if a, has, ok := impl.GetKey(s, "new"); !ok || !has || !sameAgg(a, putOf("new", 1, draw).Agg) {
					t.Fatalf("GetKey = %v, %v, %v", a, has, ok)
				}
			}
		}
	}
}

func TestPromise13OperationsThatAreNone(t *testing.T) {
	for _, d := range append(ordinaryDos(), packDo(2), impl.Do{}) {
		for _, many := range append([]int{-1, -2, 1001, 1002, -1000, 1<<32 + 1}, farInts()...) {
			for _, s := range []impl.Store{baseStore(), newStore(t, 100), {}} {
				if got, code := impl.CutStore(s, d, many, []int{1}); code != impl.StoreBad || !sameStore(got, impl.Store{}) {
					t.Errorf("CutStore(%v, %d) = %v, %d, want zero and StoreBad", d, many, got, code)
				}
			}
		}
	}
}

func TestPromise13DrawsOfAnyLength(t *testing.T) {
	r := rand.New(rand.NewSource(101))
	s := baseStore()
	for _, many := range []int{0, 1, 2, 3, 100, 5000} {
		for _, d := range ordinaryDos() {
			draws := make([]int, many)
			for i := range draws {
				draws[i] = int(r.Uint64())
			}
			ops, _ := impl.OpsOf(s, d)
			for cut := range len(ops) + 1 {
				checkCut(t, "draws", s, d, cut, draws)
			}
		}
	}
}
