package tests

import (
	"bytes"
	"math"
	"reflect"
	"slices"
	"strconv"
	"strings"
	"testing"

	"loop.example/g00150/impl"
)

func badFiles() []impl.Files {
	big := make([]byte, impl.MaxQuota+1)
	list := []impl.Files{
		filesOf(-1),
		filesOf(math.MinInt),
		filesOf(impl.MaxQuota + 1),
		filesOf(math.MaxInt),
		filesOf(-1, fileOf("a", "", 0)),
		filesOf(impl.MaxQuota+1, fileOf("a", "", 0)),
		manyFiles(0, impl.MaxFiles+1),
		manyFiles(impl.MaxQuota, 500),
		filesOf(9, fileOf("a", "", 0), fileOf("a", "", 0)),
		filesOf(9, fileOf("b", "", 0), fileOf("a", "", 0)),
		filesOf(9, fileOf("ab", "", 0), fileOf("a", "", 0)),
		filesOf(9, fileOf("a", "", 0), fileOf("0", "", 0)),
		filesOf(9, fileOf("0", "", 0), fileOf("-", "", 0)),
		filesOf(9, fileOf("a", "", 0), fileOf("c", "", 0), fileOf("b", "", 0), fileOf("d", "", 0)),
		filesOf(9, fileOf("a", "", 0), fileOf("b", "", 0), fileOf("b", "", 0)),
		filesOf(9, fileOf("a", "xy", -1)),
		filesOf(9, fileOf("a", "xy", 3)),
		filesOf(9, fileOf("a", "", 1)),
		filesOf(9, fileOf("a", "", -1)),
		filesOf(9, fileOf("a", "xy", math.MinInt)),
		filesOf(9, fileOf("a", "xy", math.MaxInt)),
		filesOf(9, fileOf("a", "xy", 2), fileOf("b", "", 1)),
		filesOf(9, fileOf("a", "xy", 2), fileOf("b", "x", -1), fileOf("c", "z", 0)),
		filesOf(0, fileOf("a", "x", 0)),
		filesOf(0, fileOf("a", "", 0), fileOf("b", "x", 1)),
		filesOf(3, fileOf("a", "xyzw", 4)),
		filesOf(3, fileOf("a", "xy", 2), fileOf("b", "xy", 0)),
		filesOf(3, fileOf("a", "x", 1), fileOf("b", "xy", 0), fileOf("c", "y", 1)),
		filesOf(impl.MaxQuota, impl.File{Name: "a", Data: big}),
		filesOf(impl.MaxQuota, impl.File{Name: "a", Data: big[:40000]}, impl.File{Name: "b", Data: big[:20001]}),
	}
	for _, name := range badFileNames() {
		list = append(list, filesOf(9, fileOf(name, "", 0)), filesOf(9, fileOf("-", "x", 0), fileOf(name, "", 0)), filesOf(9, fileOf(name, "", 0), fileOf("zzz", "x", 0)))
	}
	return list
}

func badFileNames() []string {
	return []string{
		"", strings.Repeat("a", 21), strings.Repeat("-", 21), strings.Repeat("a", 100000), "A", "Z", "aB", "a b", " ", "a.b", "a/b", "a_b",
		"\x00", "a\x00", "a\n", "`", "{", "/", ":", ",", ".", "é", "aé", "日本", "\xff", "\xe2\x80\x93", "+", "log:1", "log 1", "tablé",
	}
}

func goodFileNames() []string {
	return []string{
		"a", "z", "0", "9", "-", "--", "-a", "a-", "log-1", "table-12", "manifest", "0123456789",
		"abcdefghijklmnopqrst", "uvwxyz-0123456789-ab", strings.Repeat("-", 20), strings.Repeat("9", 19),
	}
}

func TestPromise13GoodFiles(t *testing.T) {
	half := make([]byte, impl.MaxQuota/2)
	for _, f := range []impl.Files{
		{},
		{Quota: impl.MaxQuota},
		manyFiles(0, impl.MaxFiles),
		manyFiles(impl.MaxQuota, impl.MaxFiles),
		filesOf(0, fileOf("a", "", 0)),
		filesOf(2, fileOf("a", "xy", 0)),
		filesOf(2, fileOf("a", "xy", 2)),
		filesOf(5, fileOf("-", "xy", 2), fileOf("0", "x", 0), fileOf("a", "", 0), fileOf("a-", "z", 1), fileOf("a0", "z", 0), fileOf("aa", "", 0)),
		filesOf(impl.MaxQuota, impl.File{Name: "a", Data: half, Synced: len(half)}, impl.File{Name: "b", Data: half}),
	} {
		if !impl.GoodFiles(f) {
			t.Errorf("GoodFiles(%v) = false", f)
		}
	}
	for _, name := range goodFileNames() {
		if !impl.GoodFiles(filesOf(1, fileOf(name, "x", 1))) {
			t.Errorf("GoodFiles of the name %q = false", name)
		}
	}
}

func TestPromise13BadFiles(t *testing.T) {
	for _, f := range badFiles() {
		if impl.GoodFiles(f) {
			t.Errorf("GoodFiles(%.80v) = true", f)
		}
		if used, ok := impl.UsedBytes(f); used != 0 || ok {
			t.Errorf("UsedBytes(%.80v) = %d, %v", f, used, ok)
		}
		for _, name := range []string{"a", "b", "f100", "zzz", "new", "", "A"} {
			for op := range 5 {
				got, code := changeFiles(f, op, name, "other", "x")
				wantFiles(t, "op "+strconv.Itoa(op)+" of "+name, got, code, impl.Files{}, impl.FileBad)
			}
			if b, code := impl.ReadFile(f, name); len(b) != 0 || code != impl.FileBad {
				t.Errorf("ReadFile of bad files = %q, %d", b, code)
			}
		}
		for _, draws := range [][]int{nil, {1}, {-1, 2, math.MinInt}} {
			got, code := impl.CrashFiles(f, draws)
			wantFiles(t, "CrashFiles", got, code, impl.Files{}, impl.FileBad)
		}
	}
}

func TestPromise13BadFileNames(t *testing.T) {
	for _, f := range []impl.Files{{}, filesOf(9, fileOf("a", "xy", 1), fileOf("b", "z", 0)), manyFiles(0, impl.MaxFiles)} {
		for _, name := range badFileNames() {
			for op := range 5 {
				got, code := changeFiles(f, op, name, "a", "x")
				wantFiles(t, "op "+strconv.Itoa(op)+" of "+strconv.Quote(name), got, code, impl.Files{}, impl.FileBad)
			}
			for _, from := range []string{"a", "b", "c", name} {
				got, code := impl.RenameFile(f, from, name)
				wantFiles(t, "RenameFile to "+strconv.Quote(name), got, code, impl.Files{}, impl.FileBad)
			}
			if b, code := impl.ReadFile(f, name); len(b) != 0 || code != impl.FileBad {
				t.Errorf("ReadFile(%q) = %q, %d", name, b, code)
			}
		}
	}
}

func TestPromise13EachByteOfFileNames(t *testing.T) {
	for c := range 256 {
		good := c >= 'a' && c <= 'z' || c >= '0' && c <= '9' || c == '-'
		for _, name := range []string{string([]byte{byte(c)}), "x" + string([]byte{byte(c)}), string([]byte{byte(c)}) + "x", "abcdefghijklmnopqrs" + string([]byte{byte(c)})} {
			checkFileName(t, name, good)
		}
	}
	for many := range 30 {
		checkFileName(t, strings.Repeat("q", many), many >= 1 && many <= 20)
	}
	for _, name := range goodFileNames() {
		checkFileName(t, name, true)
	}
}

func checkFileName(t *testing.T, name string, good bool) {
	t.Helper()
	want, wantCode := impl.Files{}, impl.FileBad
	if good {
		want, wantCode = filesOf(4, fileOf(name, "", 0)), impl.FileOk
	}
	if got := impl.GoodFiles(filesOf(4, fileOf(name, "", 0))); got != good {
		t.Errorf("GoodFiles of the name %q = %v", name, got)
	}
	got, code := impl.CreateFile(filesOf(4), name)
	wantFiles(t, "CreateFile "+strconv.Quote(name), got, code, want, wantCode)
	if name == "new-name" {
		return
	}
	got, code = impl.RenameFile(filesOf(4, fileOf("new-name", "", 0)), "new-name", name)
	wantFiles(t, "RenameFile to "+strconv.Quote(name), got, code, want, wantCode)
	if _, code := impl.ReadFile(filesOf(4), name); good && code != impl.FileNone || !good && code != impl.FileBad {
		t.Errorf("ReadFile(%q) tells %d", name, code)
	}
}

func TestPromise13RefusedFilesStay(t *testing.T) {
	f := filesOf(6, fileOf("a", "xyz", 1), fileOf("c", "", 0), fileOf("e", "pqr", 3))
	for op := 1; op < 5; op++ {
		for _, name := range []string{"-", "b", "d", "f", "aa"} {
			got, code := changeFiles(f, op, name, "a", "x")
			wantFiles(t, "op "+strconv.Itoa(op)+" of "+name, got, code, f, impl.FileNone)
		}
	}
	for _, file := range f.Files {
		got, code := impl.CreateFile(f, file.Name)
		wantFiles(t, "CreateFile "+file.Name, got, code, f, impl.FileTwice)
		got, code = impl.AppendFile(f, file.Name, []byte("x"))
		wantFiles(t, "AppendFile "+file.Name, got, code, f, impl.FileFull)
	}
	for op := range 5 {
		want := impl.FileNone
		if op == 0 {
			want = impl.FileOk
		}
		if _, code := changeFiles(impl.Files{}, op, "a", "b", ""); code != want {
			t.Errorf("op %d of no files tells %d", op, code)
		}
	}
}

// filesWithMoreBehind has bytes and files behind each length that would spoil every answer.
func filesWithMoreBehind() impl.Files {
	data := []byte("xyz??????")
	loose := []byte("pqrs!!!!!")
	list := []impl.File{
		{Name: "a", Data: data[:3], Synced: 1},
		{Name: "c", Data: nil},
		{Name: "e", Data: loose[:4], Synced: 2},
		{Name: "a", Data: make([]byte, 99), Synced: -5},
		{Name: "B", Synced: 1},
	}
	return impl.Files{Quota: 12, Files: list[:3]}
}

// wholeFiles is a copy of f with all that lies behind its lengths.
func wholeFiles(f impl.Files) []impl.File {
	list := slices.Clone(f.Files[:cap(f.Files)])
	for i := range list {
		list[i].Data = slices.Clone(list[i].Data[:cap(list[i].Data)])
	}
	return list
}

// eachFilesCall does every call of the chapter, refused ones too.
func eachFilesCall(f impl.Files, see func(what string, g impl.Files, code int)) {
	for _, name := range []string{"-", "a", "b", "c", "e", "z", "", "A"} {
		for op := range 5 {
			for _, other := range []string{"a", "b", "c", "e", "z", ""} {
				for _, data := range []string{"", "12", "12345", "123456"} {
					g, code := changeFiles(f, op, name, other, data)
					see("op "+strconv.Itoa(op)+" of "+name+" "+other+" "+data, g, code)
				}
			}
		}
		b, code := impl.ReadFile(f, name)
		see("ReadFile "+name, filesOf(0, impl.File{Data: b}), code)
	}
	for _, draws := range [][]int{nil, {0}, {1}, {2, 2}, {-1, -1, -1}, {2, 1, 5}} {
		g, code := impl.CrashFiles(f, draws)
		see("CrashFiles", g, code)
	}
	impl.GoodFiles(f)
	impl.UsedBytes(f)
}

func TestPromise13FilesStay(t *testing.T) {
	f := filesWithMoreBehind()
	kept := wholeFiles(f)
	eachFilesCall(f, func(what string, g impl.Files, code int) {
		if !reflect.DeepEqual(wholeFiles(f), kept) {
			t.Fatalf("%s wrote into the files: %v", what, f.Files[:cap(f.Files)])
		}
	})
	data := []byte("12345678")
	impl.AppendFile(f, "a", data[:3])
	impl.AppendFile(f, "a", data[:8])
	draws := []int{1, 2, 3, 4, 5}
	impl.CrashFiles(f, draws[:1])
	impl.CrashFiles(f, draws)
	if string(data) != "12345678" || !slices.Equal(draws, []int{1, 2, 3, 4, 5}) {
		t.Errorf("written into: %q, %v", data, draws)
	}
	for _, bad := range badFiles() {
		kept := wholeFiles(bad)
		eachFilesCall(bad, func(what string, g impl.Files, code int) {})
		if !reflect.DeepEqual(wholeFiles(bad), kept) {
			t.Fatalf("written into bad files: %.80v", bad)
		}
	}
}

func fillFiles(f impl.Files) {
	list := f.Files[:cap(f.Files)]
	for i := range list {
		fill(list[i].Data)
		list[i] = impl.File{Name: "spoiled", Synced: 77}
	}
}

func TestPromise13FilesShareNothingWithArguments(t *testing.T) {
	f := filesWithMoreBehind()
	kept := wholeFiles(f)
	calls := 0
	eachFilesCall(f, func(what string, g impl.Files, code int) {
		fillFiles(g)
		calls++
		if !reflect.DeepEqual(wholeFiles(f), kept) {
			t.Fatalf("%s: the answer shares memory with the argument: %v", what, f)
		}
	})
	if calls == 0 {
		t.Error("no call was done")
	}
	data := []byte("12")
	g, _ := impl.AppendFile(f, "c", data)
	fill(data)
	if string(g.Files[1].Data) != "12" {
		t.Errorf("AppendFile keeps the bytes that it was given: %q", g.Files[1].Data)
	}
	fill(f.Files[0].Data)
	if string(g.Files[0].Data) != "xyz" {
		t.Errorf("AppendFile keeps the files' bytes: %q", g.Files[0].Data)
	}
}

// The same bytes may stand in several lists of an argument; those of an answer are apart even so.
func TestPromise13FilesShareNothingAmongThem(t *testing.T) {
	row := []byte("xyzpqrs")
	f := impl.Files{Quota: 20, Files: []impl.File{
		{Name: "a", Data: row[:3], Synced: 1},
		{Name: "c", Data: row[:4], Synced: 2},
		{Name: "e", Data: row[1:5], Synced: 0},
	}}
	eachFilesCall(f, func(what string, g impl.Files, code int) {
		for i := range g.Files {
			before := make([]string, len(g.Files))
			for j := range g.Files {
				before[j] = string(g.Files[j].Data)
			}
			fill(g.Files[i].Data)
			for j := range g.Files {
				if i != j && string(g.Files[j].Data) != before[j] {
					t.Fatalf("%s: lists %d and %d share memory", what, i, j)
				}
			}
		}
	})
	g, _ := impl.AppendFile(f, "a", f.Files[1].Data)
	wantFiles(t, "AppendFile of a file's own bytes", g, 0, filesOf(20, fileOf("a", "xyzxyzp", 1), fileOf("c", "xyzp", 2), fileOf("e", "yzpq", 0)), 0)
	if string(row) != "xyzpqrs" {
		t.Errorf("written into: %q", row)
	}
}

func TestPromise13NothingBehindFiles(t *testing.T) {
	f := filesWithMoreBehind()
	eachFilesCall(f, func(what string, g impl.Files, code int) {
		for _, file := range g.Files[len(g.Files):cap(g.Files)] {
			if file.Name != "" || file.Synced != 0 || cap(file.Data) != 0 {
				t.Fatalf("%s: files behind the length: %v", what, file)
			}
		}
		for _, file := range g.Files {
			if b := file.Data[len(file.Data):cap(file.Data)]; !bytes.Equal(b, make([]byte, len(b))) {
				t.Fatalf("%s: bytes behind the length: %q", what, b)
			}
		}
	})
}

func TestPromise13NothingBehindLengthsOfFiles(t *testing.T) {
	f := filesWithMoreBehind()
	if !impl.GoodFiles(f) {
		t.Error("GoodFiles reads behind the length")
	}
	if used, ok := impl.UsedBytes(f); used != 7 || !ok {
		t.Errorf("UsedBytes = %d, %v", used, ok)
	}
	data := []byte("12345678")
	got, code := impl.AppendFile(f, "a", data[:2])
	wantFiles(t, "AppendFile", got, code, filesOf(12, fileOf("a", "xyz12", 1), fileOf("c", "", 0), fileOf("e", "pqrs", 2)), impl.FileOk)
	draws := []int{1, 2, 2}
	got, code = impl.CrashFiles(f, draws[:1])
	wantFiles(t, "CrashFiles", got, code, filesOf(12, fileOf("a", "xy", 2), fileOf("c", "", 0), fileOf("e", "pq", 2)), impl.FileOk)
	got, code = impl.CrashFiles(f, draws[:0])
	wantFiles(t, "CrashFiles", got, code, filesOf(12, fileOf("a", "x", 1), fileOf("c", "", 0), fileOf("e", "pq", 2)), impl.FileOk)
	got, code = impl.CreateFile(f, "b")
	wantFiles(t, "CreateFile", got, code, filesOf(12, fileOf("a", "xyz", 1), fileOf("b", "", 0), fileOf("c", "", 0), fileOf("e", "pqrs", 2)), impl.FileOk)
}

// An answer must not hang on the order in which the files are gone through inside.
func TestPromise13SameFilesEachTime(t *testing.T) {
	f := manyFiles(400, impl.MaxFiles-1)
	for i := range f.Files {
		f.Files[i].Data = bytes.Repeat([]byte{'a' + byte(i%26)}, i%9)
		f.Files[i].Synced = i % 9 / 2
	}
	draws := []int{3, -1, 4, -1, 5, -9, 2, 6, -5, 3, 5}
	crashed, _ := impl.CrashFiles(f, draws)
	created, _ := impl.CreateFile(f, "f12")
	for range 30 {
		got, code := impl.CrashFiles(f, draws)
		wantFiles(t, "CrashFiles again", got, code, crashed, impl.FileOk)
		got, code = impl.CreateFile(f, "f12")
		wantFiles(t, "CreateFile again", got, code, created, impl.FileOk)
		if !impl.GoodFiles(got) {
			t.Fatal("the files do not rise")
		}
	}
}
