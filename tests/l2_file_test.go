package tests

import (
	"bytes"
	"math"
	"math/big"
	"slices"
	"strconv"
	"strings"
	"testing"

	"loop.example/g00150/impl"
)

func fileOf(name string, data string, synced int) impl.File {
	return impl.File{Name: name, Data: []byte(data), Synced: synced}
}

func filesOf(quota int, list ...impl.File) impl.Files {
	return impl.Files{Quota: quota, Files: list}
}

func sameFiles(a impl.Files, b impl.Files) bool {
	return a.Quota == b.Quota && slices.EqualFunc(a.Files, b.Files, func(x impl.File, y impl.File) bool {
		return x.Name == y.Name && bytes.Equal(x.Data, y.Data) && x.Synced == y.Synced
	})
}

func wantFiles(t *testing.T, what string, got impl.Files, code int, want impl.Files, wantCode int) {
	t.Helper()
	if code != wantCode || !sameFiles(got, want) {
		t.Errorf("%s = %v, %d, want %v, %d", what, got, code, want, wantCode)
	}
}

// manyFiles has rising names with room between them.
func manyFiles(quota int, many int) impl.Files {
	f := impl.Files{Quota: quota}
	for i := range many {
		f.Files = append(f.Files, impl.File{Name: "f" + strconv.Itoa(100+i)})
	}
	return f
}

// staying is the document's mod, by another way than the program's.
func staying(draw int, loose int) int {
	left := new(big.Int).Mod(big.NewInt(int64(draw)), big.NewInt(int64(loose)+1))
	return int(left.Int64())
}

func someDraws() []int {
	draws := []int{math.MinInt, math.MinInt + 1, math.MaxInt, math.MaxInt - 1, -1000000, 1000000}
	for d := -13; d <= 13; d++ {
		draws = append(draws, d)
	}
	return draws
}

func TestPromise2CrashOfOneFile(t *testing.T) {
	const whole = "abcdefghij"
	for synced := 0; synced <= 5; synced++ {
		for loose := 0; loose <= 5; loose++ {
			f := filesOf(10, fileOf("a", whole[:synced+loose], synced))
			for _, draw := range someDraws() {
				stays := synced + staying(draw, loose)
				got, code := impl.CrashFiles(f, []int{draw})
				wantFiles(t, "CrashFiles by "+strconv.Itoa(draw), got, code, filesOf(10, fileOf("a", whole[:stays], stays)), impl.FileOk)
			}
			got, code := impl.CrashFiles(f, nil)
			wantFiles(t, "CrashFiles without draws", got, code, filesOf(10, fileOf("a", whole[:synced], synced)), impl.FileOk)
		}
	}
}

func TestPromise2CrashTakesDrawsInOrder(t *testing.T) {
	f := filesOf(100,
		fileOf("a", "whole", 5),
		fileOf("b", "12345", 2),
		fileOf("c", "", 0),
		fileOf("d", "xyz", 0),
		fileOf("e", "all", 3),
		fileOf("f", "pqrstu", 4),
	)
	for _, c := range []struct {
		draws   []int
		b, d, f int
	}{
		{nil, 2, 0, 4},
		{[]int{}, 2, 0, 4},
		{[]int{1}, 3, 0, 4},
		{[]int{1, 2}, 3, 2, 4},
		{[]int{1, 2, 1}, 3, 2, 5},
		{[]int{3, 3, 2}, 5, 3, 6},
		{[]int{4, 4, 3}, 2, 0, 4},
		{[]int{-1, -1, -1}, 5, 3, 6},
		{[]int{-2, -3, -2}, 4, 1, 5},
		{[]int{0, 0, 2, 9, 9, 9}, 2, 0, 6},
		{[]int{0, 3}, 2, 3, 4},
	} {
		want := filesOf(100,
			fileOf("a", "whole", 5),
			fileOf("b", "12345"[:c.b], c.b),
			fileOf("c", "", 0),
			fileOf("d", "xyz"[:c.d], c.d),
			fileOf("e", "all", 3),
			fileOf("f", "pqrstu"[:c.f], c.f),
		)
		got, code := impl.CrashFiles(f, c.draws)
		wantFiles(t, "CrashFiles", got, code, want, impl.FileOk)
		again, code := impl.CrashFiles(got, []int{7, 7, 7})
		wantFiles(t, "CrashFiles once more", again, code, want, impl.FileOk)
	}
}

func TestPromise2CrashKeepsFiles(t *testing.T) {
	for _, f := range []impl.Files{{}, {Quota: impl.MaxQuota}, manyFiles(0, impl.MaxFiles), manyFiles(7, 3)} {
		got, code := impl.CrashFiles(f, []int{5, 6, 7})
		wantFiles(t, "CrashFiles", got, code, f, impl.FileOk)
	}
	f := manyFiles(impl.MaxQuota, impl.MaxFiles)
	want := manyFiles(impl.MaxQuota, impl.MaxFiles)
	var draws []int
	for i := range f.Files {
		f.Files[i].Data = bytes.Repeat([]byte{byte(i)}, i+3)
		f.Files[i].Synced = 2
		draws = append(draws, i)
		want.Files[i].Data = bytes.Repeat([]byte{byte(i)}, 2+i)
		want.Files[i].Synced = 2 + i
	}
	got, code := impl.CrashFiles(f, draws)
	wantFiles(t, "CrashFiles of many", got, code, want, impl.FileOk)
}

func TestPromise2SyncedStaysBehindSteps(t *testing.T) {
	f := filesOf(20)
	var code int
	step := func(g impl.Files, c int) {
		t.Helper()
		if c != impl.FileOk {
			t.Fatalf("code %d", c)
		}
		f, code = g, c
	}
	step(impl.CreateFile(f, "log"))
	step(impl.AppendFile(f, "log", []byte("kept")))
	step(impl.SyncFile(f, "log"))
	step(impl.AppendFile(f, "log", []byte("lost")))
	step(impl.RenameFile(f, "log", "old"))
	for _, draw := range someDraws() {
		g, _ := impl.CrashFiles(f, []int{draw})
		b, c := impl.ReadFile(g, "old")
		if c != impl.FileOk || !strings.HasPrefix(string(b), "kept") || !strings.HasPrefix("keptlost", string(b)) {
			t.Errorf("behind a crash by %d: %q, %d", draw, b, c)
		}
	}
	step(impl.SyncFile(f, "old"))
	step(impl.CrashFiles(f, nil))
	if b, c := impl.ReadFile(f, "old"); string(b) != "keptlost" || c != impl.FileOk || code != impl.FileOk {
		t.Errorf("behind the second sync: %q, %d", b, c)
	}
}

func TestPromise2AppendUpToQuota(t *testing.T) {
	f := filesOf(10, fileOf("a", "123", 3), fileOf("b", "", 0), fileOf("c", "45", 0))
	got, code := impl.AppendFile(f, "b", []byte("67890"))
	full := filesOf(10, fileOf("a", "123", 3), fileOf("b", "67890", 0), fileOf("c", "45", 0))
	wantFiles(t, "AppendFile up to Quota", got, code, full, impl.FileOk)
	for _, name := range []string{"a", "b", "c"} {
		got, code = impl.AppendFile(f, name, []byte("678901"))
		wantFiles(t, "AppendFile beyond Quota", got, code, f, impl.FileFull)
		got, code = impl.AppendFile(full, name, []byte("1"))
		wantFiles(t, "AppendFile to full files", got, code, full, impl.FileFull)
		got, code = impl.AppendFile(full, name, nil)
		wantFiles(t, "AppendFile of nothing", got, code, full, impl.FileOk)
	}
	got, code = impl.AppendFile(f, "a", []byte("xy"))
	wantFiles(t, "AppendFile", got, code, filesOf(10, fileOf("a", "123xy", 3), fileOf("b", "", 0), fileOf("c", "45", 0)), impl.FileOk)
}

func TestPromise2AppendAtTheLeastAndGreatestQuota(t *testing.T) {
	none := filesOf(0, fileOf("a", "", 0))
	got, code := impl.AppendFile(none, "a", []byte{})
	wantFiles(t, "AppendFile of nothing", got, code, none, impl.FileOk)
	got, code = impl.AppendFile(none, "a", []byte{0})
	wantFiles(t, "AppendFile of a byte", got, code, none, impl.FileFull)

	great := filesOf(impl.MaxQuota, fileOf("a", "12", 1), fileOf("b", "", 0))
	rest := make([]byte, impl.MaxQuota-2)
	got, code = impl.AppendFile(great, "b", rest)
	if used, ok := impl.UsedBytes(got); code != impl.FileOk || used != impl.MaxQuota || !ok {
		t.Errorf("up to MaxQuota: %d, %d, %v", code, used, ok)
	}
	got, code = impl.AppendFile(great, "b", append(rest, 0))
	wantFiles(t, "AppendFile beyond MaxQuota", got, code, great, impl.FileFull)
}

func TestPromise2CreateUpToMaxFiles(t *testing.T) {
	f := impl.Files{Quota: 3}
	for i := range impl.MaxFiles {
		var code int
		// Each comes ahead of all the others.
		f, code = impl.CreateFile(f, "f"+strconv.Itoa(99-i))
		if code != impl.FileOk || len(f.Files) != i+1 || !impl.GoodFiles(f) {
			t.Fatalf("file %d: %d, %v", i, code, f)
		}
	}
	for _, name := range []string{"a", "f595", "z", "f"} {
		got, code := impl.CreateFile(f, name)
		wantFiles(t, "CreateFile beyond MaxFiles", got, code, f, impl.FileFull)
	}
	for _, file := range f.Files {
		got, code := impl.CreateFile(f, file.Name)
		wantFiles(t, "CreateFile twice", got, code, f, impl.FileTwice)
	}
	g, code := impl.RemoveFile(f, "f77")
	if code != impl.FileOk || len(g.Files) != impl.MaxFiles-1 {
		t.Fatalf("RemoveFile: %d, %v", code, g)
	}
	g, code = impl.CreateFile(g, "f77")
	wantFiles(t, "CreateFile behind RemoveFile", g, code, f, impl.FileOk)
}

func TestPromise2CreateInItsPlace(t *testing.T) {
	f := filesOf(9, fileOf("b", "xy", 1), fileOf("d", "z", 1))
	for _, c := range []struct {
		name string
		want impl.Files
	}{
		{"a", filesOf(9, fileOf("a", "", 0), fileOf("b", "xy", 1), fileOf("d", "z", 1))},
		{"-", filesOf(9, fileOf("-", "", 0), fileOf("b", "xy", 1), fileOf("d", "z", 1))},
		{"0", filesOf(9, fileOf("0", "", 0), fileOf("b", "xy", 1), fileOf("d", "z", 1))},
		{"b-", filesOf(9, fileOf("b", "xy", 1), fileOf("b-", "", 0), fileOf("d", "z", 1))},
		{"c", filesOf(9, fileOf("b", "xy", 1), fileOf("c", "", 0), fileOf("d", "z", 1))},
		{"d0", filesOf(9, fileOf("b", "xy", 1), fileOf("d", "z", 1), fileOf("d0", "", 0))},
	} {
		got, code := impl.CreateFile(f, c.name)
		wantFiles(t, "CreateFile "+c.name, got, code, c.want, impl.FileOk)
	}
}

func TestPromise2Rename(t *testing.T) {
	f := filesOf(9, fileOf("b", "bb", 1), fileOf("d", "ddd", 2), fileOf("f", "", 0))
	for _, c := range []struct {
		from, to string
		want     impl.Files
	}{
		{"b", "b", f},
		{"d", "d", f},
		{"f", "f", f},
		{"b", "a", filesOf(9, fileOf("a", "bb", 1), fileOf("d", "ddd", 2), fileOf("f", "", 0))},
		{"b", "c", filesOf(9, fileOf("c", "bb", 1), fileOf("d", "ddd", 2), fileOf("f", "", 0))},
		{"b", "e", filesOf(9, fileOf("d", "ddd", 2), fileOf("e", "bb", 1), fileOf("f", "", 0))},
		{"b", "g", filesOf(9, fileOf("d", "ddd", 2), fileOf("f", "", 0), fileOf("g", "bb", 1))},
		{"f", "a", filesOf(9, fileOf("a", "", 0), fileOf("b", "bb", 1), fileOf("d", "ddd", 2))},
		{"b", "d", filesOf(9, fileOf("d", "bb", 1), fileOf("f", "", 0))},
		{"d", "b", filesOf(9, fileOf("b", "ddd", 2), fileOf("f", "", 0))},
		{"b", "f", filesOf(9, fileOf("d", "ddd", 2), fileOf("f", "bb", 1))},
		{"f", "b", filesOf(9, fileOf("b", "", 0), fileOf("d", "ddd", 2))},
		{"a", "b", filesOf(0)},
		{"a", "a", filesOf(0)},
		{"a", "z", filesOf(0)},
	} {
		want, wantCode := c.want, impl.FileOk
		if len(want.Files) == 0 {
			want, wantCode = f, impl.FileNone
		}
		got, code := impl.RenameFile(f, c.from, c.to)
		wantFiles(t, "RenameFile "+c.from+" "+c.to, got, code, want, wantCode)
	}
	many := manyFiles(0, impl.MaxFiles)
	got, code := impl.RenameFile(many, "f100", "z")
	if code != impl.FileOk || len(got.Files) != impl.MaxFiles || got.Files[impl.MaxFiles-1].Name != "z" || got.Files[0].Name != "f101" {
		t.Errorf("RenameFile among MaxFiles: %v, %d", got, code)
	}
}

func TestPromise2SyncRemoveRead(t *testing.T) {
	f := filesOf(9, fileOf("b", "bb", 1), fileOf("d", "ddd", 0), fileOf("f", "", 0))
	got, code := impl.SyncFile(f, "d")
	wantFiles(t, "SyncFile", got, code, filesOf(9, fileOf("b", "bb", 1), fileOf("d", "ddd", 3), fileOf("f", "", 0)), impl.FileOk)
	got, code = impl.SyncFile(got, "d")
	wantFiles(t, "SyncFile again", got, code, filesOf(9, fileOf("b", "bb", 1), fileOf("d", "ddd", 3), fileOf("f", "", 0)), impl.FileOk)
	got, code = impl.SyncFile(f, "f")
	wantFiles(t, "SyncFile of nothing", got, code, f, impl.FileOk)

	got, code = impl.RemoveFile(f, "d")
	wantFiles(t, "RemoveFile", got, code, filesOf(9, fileOf("b", "bb", 1), fileOf("f", "", 0)), impl.FileOk)
	if used, ok := impl.UsedBytes(got); used != 2 || !ok {
		t.Errorf("UsedBytes behind RemoveFile = %d, %v", used, ok)
	}
	got, code = impl.RemoveFile(got, "d")
	wantFiles(t, "RemoveFile again", got, code, filesOf(9, fileOf("b", "bb", 1), fileOf("f", "", 0)), impl.FileNone)

	for _, file := range f.Files {
		if b, code := impl.ReadFile(f, file.Name); !bytes.Equal(b, file.Data) || code != impl.FileOk {
			t.Errorf("ReadFile(%s) = %q, %d", file.Name, b, code)
		}
	}
	if used, ok := impl.UsedBytes(f); used != 5 || !ok {
		t.Errorf("UsedBytes = %d, %v", used, ok)
	}
}

// Each argument has several faults; the code that comes first in the document counts.
func TestPromise2OrderOfCodes(t *testing.T) {
	bad := filesOf(1, fileOf("a", "123", 0))
	full := filesOf(3, fileOf("a", "123", 0))
	both := manyFiles(0, impl.MaxFiles)
	long := strings.Repeat("a", 21)
	check := func(what string, want int) func(f impl.Files, code int) {
		return func(f impl.Files, code int) {
			t.Helper()
			if code != want || want == impl.FileBad && !sameFiles(f, impl.Files{}) {
				t.Errorf("%s: %v, %d, want %d", what, f, code, want)
			}
		}
	}
	check("create: bad files, there twice", impl.FileBad)(impl.CreateFile(bad, "a"))
	check("create: bad name, no room", impl.FileBad)(impl.CreateFile(both, long))
	check("create: twice, no room", impl.FileTwice)(impl.CreateFile(both, "f107"))
	check("create: no room", impl.FileFull)(impl.CreateFile(both, "f"))
	check("append: bad files, none, too much", impl.FileBad)(impl.AppendFile(bad, "b", []byte("x")))
	check("append: bad name, none, too much", impl.FileBad)(impl.AppendFile(full, long, []byte("x")))
	check("append: none, too much", impl.FileNone)(impl.AppendFile(full, "b", []byte("x")))
	check("append: too much", impl.FileFull)(impl.AppendFile(full, "a", []byte("x")))
	check("sync: bad files, none", impl.FileBad)(impl.SyncFile(bad, "b"))
	check("sync: bad name, none", impl.FileBad)(impl.SyncFile(full, ""))
	check("sync: none", impl.FileNone)(impl.SyncFile(full, "b"))
	check("rename: bad files, none", impl.FileBad)(impl.RenameFile(bad, "b", "c"))
	check("rename: bad from, none", impl.FileBad)(impl.RenameFile(full, "B", "c"))
	check("rename: none, bad to", impl.FileBad)(impl.RenameFile(full, "b", "C"))
	check("rename: bad to", impl.FileBad)(impl.RenameFile(full, "a", ""))
	check("rename: bad names alike", impl.FileBad)(impl.RenameFile(full, "", ""))
	check("rename: none, onto one that is there", impl.FileNone)(impl.RenameFile(full, "b", "a"))
	check("remove: bad files, none", impl.FileBad)(impl.RemoveFile(bad, "b"))
	check("remove: bad name, none", impl.FileBad)(impl.RemoveFile(full, "a b"))
	check("remove: none", impl.FileNone)(impl.RemoveFile(full, "b"))
	if b, code := impl.ReadFile(bad, "b"); len(b) != 0 || code != impl.FileBad {
		t.Errorf("read: bad files, none: %q, %d", b, code)
	}
	if b, code := impl.ReadFile(full, "_"); len(b) != 0 || code != impl.FileBad {
		t.Errorf("read: bad name, none: %q, %d", b, code)
	}
	if b, code := impl.ReadFile(full, "b"); len(b) != 0 || code != impl.FileNone {
		t.Errorf("read: none: %q, %d", b, code)
	}
}

func TestPromise2Limits(t *testing.T) {
	if impl.MaxFiles != 40 || impl.MaxQuota != 60000 {
		t.Error("limits")
	}
	for i, code := range []int{impl.FileOk, impl.FileBad, impl.FileNone, impl.FileTwice, impl.FileFull} {
		if i != code {
			t.Errorf("code %d is %d", i, code)
		}
	}
}
