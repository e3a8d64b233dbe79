package tests

import (
	"math/rand"
	"slices"
	"strings"
	"testing"

	"loop.example/g00150/impl"
)

const topFile = 100000
const mostMetas = 12

func metaOf(file int, least string, most string) impl.Meta {
	return impl.Meta{File: file, Least: least, Most: most, Many: 1}
}

// versionOf has empty levels where fewer are told.
func versionOf(next int, log int, seq int, levels ...[]impl.Meta) impl.Version {
	for len(levels) < impl.MaxLevels {
		levels = append(levels, nil)
	}
	return impl.Version{Next: next, Log: log, Seq: seq, Levels: levels}
}

func sameVersion(a impl.Version, b impl.Version) bool {
	return a.Next == b.Next && a.Log == b.Log && a.Seq == b.Seq && slices.EqualFunc(a.Levels, b.Levels, slices.Equal[[]impl.Meta])
}

func copyVersion(v impl.Version) impl.Version {
	var levels [][]impl.Meta
	for _, level := range v.Levels {
		levels = append(levels, slices.Clone(level))
	}
	v.Levels = levels
	return v
}

// metasFrom are so many metas with Files from the first on, whose keys rise and are apart.
func metasFrom(first int, many int) []impl.Meta {
	var out []impl.Meta
	for i := range many {
		head := string([]byte{'a' + byte(i)})
		out = append(out, metaOf(first+i, head+"a", head+"m"))
	}
	return out
}

// onLevel is a version with these metas on one level alone.
func onLevel(level int, metas ...impl.Meta) impl.Version {
	v := versionOf(1000, 900, 5)
	v.Levels[level] = metas
	return v
}

// fullVersion has as many metas as it may have.
func fullVersion() impl.Version {
	return versionOf(topFile, topFile-1, topSeq, metasFrom(1, mostMetas), metasFrom(101, mostMetas), metasFrom(201, mostMetas))
}

func goodVersions() []impl.Version {
	long, last := strings.Repeat("\x00", impl.MaxKeyBytes), strings.Repeat("\xff", impl.MaxKeyBytes)
	most := impl.Meta{File: topFile - 1, Least: long, Most: last, Many: impl.MaxEntries}
	return []impl.Version{
		impl.FirstVersion(),
		{Next: 2, Log: 1, Levels: [][]impl.Meta{{}, {}, {}}},
		versionOf(topFile, 1, topSeq),
		fullVersion(),
		versionOf(topFile, 2, 0, []impl.Meta{most}),
		versionOf(topFile, 2, 0, nil, []impl.Meta{most}),
		versionOf(topFile, topFile-2, 9, nil, nil, []impl.Meta{most}),
		versionOf(9, 8, 30, []impl.Meta{metaOf(6, "b", "y"), metaOf(7, "a", "z")}),
		versionOf(9, 8, 30, []impl.Meta{metaOf(7, "c", "d"), metaOf(6, "a", "b")}),
		versionOf(9, 5, 30, []impl.Meta{metaOf(4, "a", "z")}, []impl.Meta{metaOf(8, "a", "k"), metaOf(2, "l", "z")}, []impl.Meta{metaOf(1, "b", "y")}),
		versionOf(20, 1, 0, []impl.Meta{metaOf(9, "k", "k"), metaOf(3, "k", "k")}, []impl.Meta{metaOf(2, "k", "k")}, []impl.Meta{metaOf(19, "k", "k")}),
		onLevel(1, metasFrom(40, 7)...),
		onLevel(2, metasFrom(3, mostMetas)...),
	}
}

func checkVersion(t *testing.T, what string, v impl.Version, good bool) {
	t.Helper()
	if got := impl.GoodVersion(v); got != good {
		t.Errorf("%s: GoodVersion(%v) = %v, want %v", what, v, got, good)
	}
	if _, ok := impl.FilesOf(v); ok != good {
		t.Errorf("%s: FilesOf(%v) says %v, want %v", what, v, ok, good)
	}
	edit := impl.Edit{Next: max(1, min(v.Next, topFile)), Log: max(1, min(v.Log, topFile)), Seq: max(0, min(v.Seq, topSeq))}
	if got, ok := impl.ApplyEdit(v, edit); ok != good || good && !sameVersion(got, v) {
		t.Errorf("%s: ApplyEdit(%v, %v) = %v, %v, want the same and %v", what, v, edit, got, ok, good)
	}
}

func TestPromise9FirstVersion(t *testing.T) {
	v := impl.FirstVersion()
	if v.Next != 2 || v.Log != 1 || v.Seq != 0 || len(v.Levels) != 3 || impl.MaxLevels != 3 {
		t.Fatalf("FirstVersion() = %v", v)
	}
	for i, level := range v.Levels {
		if len(level) != 0 {
			t.Errorf("FirstVersion has %v on level %d", level, i)
		}
	}
	checkVersion(t, "the first", v, true)
}

func TestPromise9GoodVersions(t *testing.T) {
	for _, v := range goodVersions() {
		checkVersion(t, "good", v, true)
	}
}

func TestPromise9NumbersOfVersions(t *testing.T) {
	for _, c := range []struct {
		what string
		next int
		log  int
		seq  int
		good bool
	}{
		{"the least Next and Log", 2, 1, 0, true},
		{"no room for a Log", 1, 1, 0, false},
		{"no room for a Log, nor a Log", 1, 0, 0, false},
		{"Next 0", 0, 1, 0, false},
		{"Next below 0", -1, -2, 0, false},
		{"the greatest Next", topFile, 1, 0, true},
		{"the greatest Next and Log", topFile, topFile - 1, 0, true},
		{"Next above", topFile + 1, 1, 0, false},
		{"Next and Log above", topFile + 2, topFile + 1, 0, false},
		{"Next above, the greatest Log", topFile + 1, topFile, 0, false},
		{"Log 0", 10, 0, 0, false},
		{"Log below 0", 10, -1, 0, false},
		{"Log just below Next", 10, 9, 0, true},
		{"Log is Next", 10, 10, 0, false},
		{"Log above Next", 10, 11, 0, false},
		{"Log is the greatest Next", topFile, topFile, 0, false},
		{"Seq below 0", 10, 9, -1, false},
		{"Seq 1", 10, 9, 1, true},
		{"the greatest Seq", 10, 9, topSeq, true},
		{"Seq above", 10, 9, topSeq + 1, false},
	} {
		checkVersion(t, c.what, versionOf(c.next, c.log, c.seq), c.good)
	}
}

func TestPromise9FilesAtTheBounds(t *testing.T) {
	for level := range impl.MaxLevels {
		for _, c := range []struct {
			what string
			next int
			log  int
			file int
			good bool
		}{
			{"the least", 10, 5, 1, true},
			{"0", 10, 5, 0, false},
			{"below 0", 10, 5, -1, false},
			{"just below Next", 10, 5, 9, true},
			{"Next", 10, 5, 10, false},
			{"above Next", 10, 5, 11, false},
			{"just below Log", 10, 5, 4, true},
			{"Log", 10, 5, 5, false},
			{"just above Log", 10, 5, 6, true},
			{"Log, the least", 10, 1, 1, false},
			{"Log, just below Next", 10, 9, 9, false},
			{"the greatest", topFile, 5, topFile - 1, true},
			{"the greatest Next", topFile, 5, topFile, false},
		} {
			v := versionOf(c.next, c.log, 0)
			v.Levels[level] = []impl.Meta{metaOf(c.file, "a", "b")}
			checkVersion(t, "File "+c.what, v, c.good)
			v.Levels[level] = []impl.Meta{metaOf(2, "a", "b"), metaOf(c.file, "c", "d"), metaOf(3, "e", "f")}
			checkVersion(t, "File between "+c.what, v, c.good)
		}
	}
}

func TestPromise9KeysAndManyAtTheBounds(t *testing.T) {
	of := func(many int) string { return strings.Repeat("k", many) }
	for level := range impl.MaxLevels {
		for _, c := range []struct {
			what string
			meta impl.Meta
			good bool
		}{
			{"the shortest keys", impl.Meta{File: 7, Least: "\x00", Most: "\x00", Many: 1}, true},
			{"no Least", impl.Meta{File: 7, Least: "", Most: "k", Many: 1}, false},
			{"no Most", impl.Meta{File: 7, Least: "k", Most: "", Many: 1}, false},
			{"neither", impl.Meta{File: 7, Least: "", Most: "", Many: 1}, false},
			{"the longest Least", impl.Meta{File: 7, Least: of(140), Most: "l", Many: 1}, true},
			{"a longer Least", impl.Meta{File: 7, Least: of(141), Most: "l", Many: 1}, false},
			{"the longest Most", impl.Meta{File: 7, Least: "k", Most: of(140), Many: 1}, true},
			{"a longer Most", impl.Meta{File: 7, Least: "k", Most: of(141), Many: 1}, false},
			{"the longest of both", impl.Meta{File: 7, Least: of(140), Most: of(140), Many: 1}, true},
			{"longer both", impl.Meta{File: 7, Least: of(141), Most: of(141), Many: 1}, false},
			{"Least is Most", impl.Meta{File: 7, Least: "kk", Most: "kk", Many: 1}, true},
			{"Least above Most", impl.Meta{File: 7, Least: "b", Most: "a", Many: 1}, false},
			{"Least longer than Most", impl.Meta{File: 7, Least: "kk", Most: "k", Many: 1}, false},
			{"a small letter ahead of a great one", impl.Meta{File: 7, Least: "a", Most: "Z", Many: 1}, false},
			{"bytes above 127", impl.Meta{File: 7, Least: "z", Most: "\xff", Many: 1}, true},
			{"bytes above 127 first", impl.Meta{File: 7, Least: "\x80", Most: "\x7f", Many: 1}, false},
			{"Many 0", impl.Meta{File: 7, Least: "a", Most: "b", Many: 0}, false},
			{"Many below 0", impl.Meta{File: 7, Least: "a", Most: "b", Many: -1}, false},
			{"the greatest Many", impl.Meta{File: 7, Least: "a", Most: "b", Many: impl.MaxEntries}, true},
			{"Many above", impl.Meta{File: 7, Least: "a", Most: "b", Many: impl.MaxEntries + 1}, false},
		} {
			checkVersion(t, c.what, onLevel(level, c.meta), c.good)
			if c.meta.Least > "A" && c.meta.Most < "\xfe" || level == 0 {
				checkVersion(t, c.what, onLevel(level, metaOf(1, "A", "A"), c.meta, metaOf(3, "\xfe", "\xff")), c.good)
			}
		}
	}
}

func TestPromise9NumberOfLevelsAndMetas(t *testing.T) {
	for many := range 8 {
		v := impl.Version{Next: 10, Log: 9, Levels: make([][]impl.Meta, many)}
		checkVersion(t, "so many levels", v, many == 3)
		if many > 0 {
			v.Levels[many-1] = metasFrom(1, 3)
			checkVersion(t, "so many levels", v, many == 3)
		}
	}
	for level := range impl.MaxLevels {
		for many := range 20 {
			checkVersion(t, "so many metas", onLevel(level, metasFrom(1, many)...), many <= mostMetas)
			v := fullVersion()
			v.Levels[level] = metasFrom(301, many)
			checkVersion(t, "so many metas beside full levels", v, many <= mostMetas)
		}
	}
}

func TestPromise9NoFileTwice(t *testing.T) {
	full := fullVersion()
	for level := range impl.MaxLevels {
		for other := range impl.MaxLevels {
			for i := range mostMetas {
				for j := range mostMetas {
					v := copyVersion(full)
					v.Levels[level][i].File = v.Levels[other][j].File
					checkVersion(t, "a File twice", v, level == other && i == j)
				}
			}
		}
	}
	checkVersion(t, "the same meta twice", onLevel(0, metaOf(7, "a", "b"), metaOf(7, "a", "b")), false)
}

func TestPromise9OrderOfLevels(t *testing.T) {
	for _, c := range []struct {
		what  string
		metas []impl.Meta
		good  bool
	}{
		{"apart", []impl.Meta{metaOf(1, "a", "b"), metaOf(2, "c", "d")}, true},
		{"just apart", []impl.Meta{metaOf(1, "a", "b"), metaOf(2, "b\x00", "d")}, true},
		{"a key each", []impl.Meta{metaOf(1, "a", "a"), metaOf(2, "b", "b"), metaOf(3, "c", "c")}, true},
		{"Files that fall", []impl.Meta{metaOf(9, "a", "b"), metaOf(5, "c", "d"), metaOf(2, "e", "f")}, true},
		{"Most equal to the next one's Least", []impl.Meta{metaOf(1, "a", "b"), metaOf(2, "b", "c")}, false},
		{"Most greater than the next one's Least", []impl.Meta{metaOf(1, "a", "c"), metaOf(2, "b", "d")}, false},
		{"Most just greater than the next one's Least", []impl.Meta{metaOf(1, "a", "b\x00"), metaOf(2, "b", "d")}, false},
		{"one key in both", []impl.Meta{metaOf(1, "k", "k"), metaOf(2, "k", "k")}, false},
		{"one in the other", []impl.Meta{metaOf(1, "a", "z"), metaOf(2, "c", "d")}, false},
		{"the same keys", []impl.Meta{metaOf(1, "a", "b"), metaOf(2, "a", "b")}, false},
		{"exchanged", []impl.Meta{metaOf(1, "c", "d"), metaOf(2, "a", "b")}, false},
		{"the last two equal", []impl.Meta{metaOf(1, "a", "b"), metaOf(2, "c", "d"), metaOf(3, "d", "e")}, false},
		{"the first two equal", []impl.Meta{metaOf(1, "a", "b"), metaOf(2, "b", "d"), metaOf(3, "e", "f")}, false},
		{"the last two exchanged", []impl.Meta{metaOf(1, "a", "b"), metaOf(2, "e", "f"), metaOf(3, "c", "d")}, false},
		{"small letters ahead of great ones", []impl.Meta{metaOf(1, "a", "b"), metaOf(2, "A", "B")}, false},
		{"bytes above 127 behind", []impl.Meta{metaOf(1, "a", "z"), metaOf(2, "\x80", "\xff")}, true},
	} {
		checkVersion(t, c.what+", level 0", onLevel(0, c.metas...), true)
		checkVersion(t, c.what+", level 1", onLevel(1, c.metas...), c.good)
		checkVersion(t, c.what+", level 2", onLevel(2, c.metas...), c.good)
	}
	for level := 1; level < impl.MaxLevels; level++ {
		for i := 1; i < mostMetas; i++ {
			v := fullVersion()
			v.Levels[level][i-1].Most = v.Levels[level][i].Least
			checkVersion(t, "one Most that is the next one's Least", v, false)
		}
	}
}

func TestPromise9LevelsMayOverlapEachOther(t *testing.T) {
	all := metaOf(1, "a", "z")
	v := versionOf(10, 9, 0, []impl.Meta{all}, []impl.Meta{all}, []impl.Meta{all})
	v.Levels[1][0].File, v.Levels[2][0].File = 2, 3
	checkVersion(t, "the same keys on each level", v, true)
}

func TestPromise9FilesRise(t *testing.T) {
	for _, c := range []struct {
		v    impl.Version
		want []int
	}{
		{impl.FirstVersion(), nil},
		{onLevel(0, metaOf(7, "a", "b")), []int{7}},
		{onLevel(1, metaOf(7, "a", "b"), metaOf(3, "c", "d")), []int{3, 7}},
		{onLevel(2, metaOf(9, "a", "b"), metaOf(10, "c", "d"), metaOf(1, "e", "f")), []int{1, 9, 10}},
		{versionOf(9, 5, 30, []impl.Meta{metaOf(4, "a", "z")}, []impl.Meta{metaOf(8, "a", "k"), metaOf(2, "l", "z")}, []impl.Meta{metaOf(1, "b", "y")}), []int{1, 2, 4, 8}},
		{versionOf(200, 3, 0, []impl.Meta{metaOf(100, "b", "y"), metaOf(20, "a", "z")}, []impl.Meta{metaOf(99, "a", "k")}, []impl.Meta{metaOf(199, "b", "y")}), []int{20, 99, 100, 199}},
		{versionOf(topFile, 3, 0, []impl.Meta{metaOf(topFile-1, "b", "y")}, []impl.Meta{metaOf(1, "a", "k")}), []int{1, topFile - 1}},
	} {
		if files, ok := impl.FilesOf(c.v); !ok || !slices.Equal(files, c.want) {
			t.Errorf("FilesOf(%v) = %v, %v, want %v", c.v, files, ok, c.want)
		}
	}
}

func TestPromise9AllFilesOfFullVersions(t *testing.T) {
	r := rand.New(rand.NewSource(91))
	for range 50 {
		v := fullVersion()
		drawn := r.Perm(1000)[:impl.MaxLevels*mostMetas]
		for i, n := range drawn {
			v.Levels[i/mostMetas][i%mostMetas].File = n + 1
		}
		want := slices.Sorted(slices.Values(drawn))
		for i := range want {
			want[i]++
		}
		if files, ok := impl.FilesOf(v); !ok || !slices.Equal(files, want) {
			t.Fatalf("FilesOf(%v) = %v, %v, want %v", v, files, ok, want)
		}
	}
}
