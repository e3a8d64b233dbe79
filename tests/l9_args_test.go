package tests

import (
	"bytes"
	"math"
	"slices"
	"strings"
	"testing"

	"loop.example/g00150/impl"
)

type badVersion struct {
	what    string
	version impl.Version
}

type badMeta struct {
	what string
	meta impl.Meta
}

type badEdit struct {
	what string
	edit impl.Edit
}

// badMetas break one of the chapter's words each; the keys of most fit between "c" and "t".
func badMetas() []badMeta {
	var out []badMeta
	add := func(what string, change func(*impl.Meta)) {
		m := metaOf(7, "g", "p")
		change(&m)
		out = append(out, badMeta{what, m})
	}
	for _, n := range append([]int{0, -1, topFile + 1, topFile + 2, -topFile, 1<<32 + 7}, farInts()...) {
		add("a File that is none", func(m *impl.Meta) { m.File = n })
	}
	for _, n := range append([]int{0, -1, impl.MaxEntries + 1, impl.MaxEntries + 2, 256 + 1, 1<<32 + 1}, farInts()...) {
		add("a Many that is none", func(m *impl.Meta) { m.Many = n })
	}
	for _, many := range []int{0, impl.MaxKeyBytes + 1, impl.MaxKeyBytes + 2, 256 + 1, 65536 + 1} {
		add("a Least of so many bytes", func(m *impl.Meta) { m.Least = strings.Repeat("g", many) })
		add("a Most of so many bytes", func(m *impl.Meta) { m.Most = strings.Repeat("p", many) })
	}
	add("a Least above Most", func(m *impl.Meta) { m.Least, m.Most = "p", "g" })
	add("a Least just above Most", func(m *impl.Meta) { m.Least, m.Most = "g\x00", "g" })
	add("nothing at all", func(m *impl.Meta) { *m = impl.Meta{} })
	return out
}

// badVersions break one of the chapter's words each, by one where that is told.
func badVersions() []badVersion {
	var out []badVersion
	add := func(what string, change func(*impl.Version)) {
		v := threeLevels()
		change(&v)
		out = append(out, badVersion{what, v})
	}
	for _, n := range append([]int{0, -1, 1, topFile + 1, topFile + 2, 9, 40, 1<<32 + 50}, farInts()...) {
		add("a Next that is none", func(v *impl.Version) { v.Next = n })
	}
	for _, n := range append([]int{0, -1, 50, 51, topFile, 1, 5, 4, 1<<32 + 40}, farInts()...) {
		add("a Log that is none", func(v *impl.Version) { v.Log = n })
	}
	for _, n := range append([]int{-1, -2, topSeq + 1, topSeq + 2}, farInts()...) {
		add("a Seq that is none", func(v *impl.Version) { v.Seq = n })
	}
	for _, many := range []int{0, 1, 2, 4, 5, 100} {
		add("so many levels", func(v *impl.Version) { v.Levels = append(v.Levels, make([][]impl.Meta, 100)...)[:many] })
		add("so many levels, all empty", func(v *impl.Version) { v.Levels = make([][]impl.Meta, many) })
	}
	for level := range impl.MaxLevels {
		for _, many := range []int{mostMetas + 1, mostMetas + 2, 24} {
			add("too many metas", func(v *impl.Version) { v.Levels[level] = metasFrom(10, many) })
		}
		for _, file := range []int{50, 51, 40} {
			add("a File that is Next or Log", func(v *impl.Version) { v.Levels[level][1].File = file })
		}
		for _, other := range slices.DeleteFunc([]int{0, 1, 2}, func(n int) bool { return n == level }) {
			add("a File on two levels", func(v *impl.Version) { v.Levels[level][1].File = v.Levels[other][2].File })
		}
		add("a File twice on a level", func(v *impl.Version) { v.Levels[level][0].File = v.Levels[level][2].File })
		for _, c := range badMetas() {
			add(c.what, func(v *impl.Version) { v.Levels[level] = []impl.Meta{c.meta} })
			add(c.what+" between", func(v *impl.Version) {
				v.Levels[level] = []impl.Meta{metaOf(30, "a", "b"), c.meta, metaOf(31, "x", "z")}
			})
		}
	}
	for level := 1; level < impl.MaxLevels; level++ {
		for i := 1; i < 3; i++ {
			add("a Most that is the next one's Least", func(v *impl.Version) { v.Levels[level][i-1].Most = v.Levels[level][i].Least })
			add("two that are exchanged", func(v *impl.Version) {
				v.Levels[level][i-1], v.Levels[level][i] = v.Levels[level][i], v.Levels[level][i-1]
			})
		}
	}
	out = append(out, badVersion{"nothing at all", impl.Version{}})
	return out
}

// badEdits break one of the chapter's words each, by one where that is told.
func badEdits() []badEdit {
	var out []badEdit
	add := func(what string, change func(*impl.Edit)) {
		e := impl.Edit{Next: 60, Log: 40, Seq: 9, Drops: []int{1, 5, 6}, Adds: []impl.Add{addOf(0, 55, "a", "b"), addOf(1, 56, "t", "v")}}
		change(&e)
		out = append(out, badEdit{what, e})
	}
	for _, n := range append([]int{0, -1, topFile + 1, topFile + 2, -topFile, 1<<32 + 60}, farInts()...) {
		add("a Next that is none", func(e *impl.Edit) { e.Next = n })
		add("a Log that is none", func(e *impl.Edit) { e.Log = n })
		for place := range 3 {
			add("a drop that is none", func(e *impl.Edit) { e.Drops[place] = n })
		}
	}
	for _, n := range append([]int{-1, -2, topSeq + 1, topSeq + 2}, farInts()...) {
		add("a Seq that is none", func(e *impl.Edit) { e.Seq = n })
	}
	for _, n := range append([]int{-1, 3, 4, 256 + 1}, farInts()...) {
		for place := range 2 {
			add("a Level that is none", func(e *impl.Edit) { e.Adds[place].Level = n })
		}
	}
	for _, c := range badMetas() {
		for place := range 2 {
			add(c.what, func(e *impl.Edit) { e.Adds[place].Meta = c.meta })
		}
	}
	for _, many := range []int{mostOfEdit + 1, mostOfEdit + 2, 128, 1000} {
		add("too many drops", func(e *impl.Edit) { e.Drops = slices.Repeat([]int{7}, many) })
		add("too many adds", func(e *impl.Edit) { e.Adds = slices.Repeat([]impl.Add{addOf(0, 55, "a", "b")}, many) })
	}
	out = append(out, badEdit{"nothing at all", impl.Edit{}})
	return out
}

func TestPromise13VersionsThatAreNotGood(t *testing.T) {
	if !impl.GoodVersion(threeLevels()) {
		t.Fatal("three levels are not good")
	}
	for _, c := range badVersions() {
		checkVersion(t, c.what, c.version, false)
		if files, ok := impl.FilesOf(c.version); ok || len(files) != 0 {
			t.Errorf("%s: FilesOf(%v) = %v, %v, want none and false", c.what, c.version, files, ok)
		}
		for _, e := range append(goodEdits(), impl.Edit{Next: topFile, Log: topFile - 1, Seq: topSeq}, impl.Edit{Next: topFile, Log: 45, Seq: topSeq, Drops: []int{7}}) {
			checkNotApplied(t, c.what, c.version, e)
		}
	}
}

func TestPromise13EditsThatAreNotGood(t *testing.T) {
	good := impl.Edit{Next: 60, Log: 40, Seq: 9, Drops: []int{1, 5, 6}, Adds: []impl.Add{addOf(0, 55, "a", "b"), addOf(1, 56, "t", "v")}}
	if _, ok := impl.ApplyEdit(threeLevels(), good); !ok {
		t.Fatal("the edit that is changed does not apply")
	}
	for _, c := range badEdits() {
		if b, ok := impl.EditBytes(c.edit); ok || len(b) != 0 {
			t.Errorf("%s: EditBytes(%v) = %q, %v, want none and false", c.what, c.edit, b, ok)
		}
		checkNoEdit(t, c.what, plainEditBytes(c.edit))
		for _, v := range []impl.Version{threeLevels(), impl.FirstVersion(), versionOf(2, 1, 0, []impl.Meta{}), {}} {
			checkNotApplied(t, c.what, v, c.edit)
		}
		checkReplay(t, c.what, []impl.Edit{c.edit}, impl.FirstVersion(), 0)
		checkReplay(t, c.what, append(storyEdits(), c.edit, c.edit), storyVersions()[6], 6)
	}
}

func TestPromise13TooManyEditsToReplay(t *testing.T) {
	for _, many := range []int{mostEdits + 1, mostEdits + 2, 100, 1000} {
		for _, l := range [][]impl.Edit{risingEdits(many), make([]impl.Edit, many), slices.Repeat([]impl.Edit{{Next: 2, Log: 1}}, many)} {
			if v, applied, ok := impl.ReplayEdits(l); ok || applied != 0 || !sameVersion(v, impl.Version{}) {
				t.Errorf("ReplayEdits of %d = %v, %d, %v, want zero and false", many, v, applied, ok)
			}
		}
	}
	checkReplay(t, "none of 60", make([]impl.Edit, mostEdits), impl.FirstVersion(), 0)
}

func TestPromise13AnyBytesAsAnEdit(t *testing.T) {
	for _, s := range []string{
		"", "\x00", "\x01", "\x01\x01", "\x01\x01\x00", "\x01\x01\x00\x00", "\x00\x01\x00\x00\x00", "\x01\x00\x00\x00\x00", "\x01\x01\x00\x00\x01",
		"\x01\x01\x00\x01\x00", "\x01\x01\x00\x00\x00\x00", "\x01\x01\x00\x19\x00", "\x01\x01\x00\xff\xff\xff\xff\xff\xff\xff\xff\x7f\x00",
		"\x01\x01\x00\x00\xff\xff\xff\xff\xff\xff\xff\xff\x7f", "\x01\x01\x00\x00\xff\xff\xff\xff\xff\xff\xff\xff\xff\x01",
		"\x01\x01\x00\x00\x01\x00\x01\x01\xff\xff\xff\xff\xff\xff\xff\xff\x7fa\x01a", "\x01\x01\x00\x00\x01\x00\x01\x01\x01a\xff\xff\xff\xff\xff\xff\xff\xff\x7fa",
		strings.Repeat("\x01", 100000), strings.Repeat("\x00", 1000), strings.Repeat("\x80", 1000), strings.Repeat("\xff", 1000), strings.Repeat("a", 100000),
	} {
		checkNoEdit(t, "any bytes", []byte(s))
	}
	checkNoEdit(t, "nil", nil)
	if e, ok := impl.ReadEdit([]byte("\x01\x01\x00\x00\x00")); !ok || e.Next != 1 {
		t.Errorf("the least edit is read as %v, %v", e, ok)
	}
}

// looseVersion has memory behind each length, and tells whether all of it stayed.
func looseVersion(v impl.Version) (impl.Version, func() bool) {
	behind := metaOf(77, "behind", "it")
	var levels [][]impl.Meta
	for _, level := range v.Levels {
		levels = append(levels, append(slices.Clone(level), behind, behind)[:len(level)])
	}
	levels = append(levels, []impl.Meta{behind}, nil)
	kept := copyVersion(impl.Version{Levels: levels})
	heads := slices.Clone(levels)
	v.Levels = levels[:len(v.Levels)]
	return v, func() bool {
		for i, level := range heads {
			if !slices.Equal(level, kept.Levels[i]) || !slices.Equal(levels[i], kept.Levels[i]) || cap(levels[i]) != cap(level) {
				return false
			}
			if i < len(heads)-2 && !slices.Equal(level[len(level):len(level)+2], []impl.Meta{behind, behind}) {
				return false
			}
		}
		return true
	}
}

// looseEdit has memory behind each length, and tells whether all of it stayed.
func looseEdit(e impl.Edit) (impl.Edit, func() bool) {
	drops, adds := append(slices.Clone(e.Drops), 1, 5, 7), append(slices.Clone(e.Adds), addOf(0, 77, "behind", "it"), addOf(2, 78, "behind", "it"))
	wholeDrops, wholeAdds := slices.Clone(drops), slices.Clone(adds)
	e.Drops, e.Adds = drops[:len(e.Drops)], adds[:len(e.Adds)]
	return e, func() bool {
		return slices.Equal(drops, wholeDrops) && slices.Equal(adds, wholeAdds)
	}
}

func givenVersions() []impl.Version {
	out := append(goodVersions(), storyVersions()...)
	for _, c := range badVersions() {
		out = append(out, c.version)
	}
	return append(out, threeLevels())
}

func givenEdits() []impl.Edit {
	out := append(goodEdits(), risingEdits(20)...)
	for _, c := range badEdits() {
		out = append(out, c.edit)
	}
	v := threeLevels()
	return append(out,
		editOn(v, []int{9, 5, 3}, addOf(0, 30, "a", "z"), addOf(1, 31, "a", "b"), addOf(2, 32, "a", "b"), addOf(1, 33, "i", "j")),
		editOn(v, []int{7}, addOf(1, 7, "d", "e"), addOf(2, 30, "w", "z")),
		editOn(v, []int{1, 2, 3, 4, 5, 6, 7, 8, 9}),
		editOn(v, nil, addOf(0, 30, "a", "z"), addOf(1, 31, "A", "B"), addOf(2, 32, "A", "B")))
}

func TestPromise13VersionsAndEditsStay(t *testing.T) {
	for _, v := range givenVersions() {
		given, stayed := looseVersion(v)
		impl.GoodVersion(given)
		impl.FilesOf(given)
		for _, e := range givenEdits() {
			edit, same := looseEdit(e)
			got, ok := impl.ApplyEdit(given, edit)
			if !same() || !stayed() {
				t.Fatalf("ApplyEdit(%v, %v) wrote into it", v, e)
			}
			if want, too := impl.ApplyEdit(v, e); ok != too || !sameVersion(got, want) {
				t.Fatalf("ApplyEdit(%v, %v) hangs on what lies behind", v, e)
			}
			checkNothingBehindVersion(t, got)
		}
		a, ok := impl.FilesOf(given)
		if b, too := impl.FilesOf(v); ok != too || !slices.Equal(a, b) || impl.GoodVersion(given) != impl.GoodVersion(v) {
			t.Fatalf("FilesOf(%v) hangs on what lies behind", v)
		}
		for _, n := range a[len(a):cap(a)] {
			if n != 0 {
				t.Fatalf("behind FilesOf's answer lies %d", n)
			}
		}
	}
}

func checkNothingBehindVersion(t *testing.T, v impl.Version) {
	t.Helper()
	for _, level := range v.Levels {
		for _, m := range level[len(level):cap(level)] {
			if m != (impl.Meta{}) {
				t.Fatalf("behind the length lies %v", m)
			}
		}
	}
	for _, level := range v.Levels[len(v.Levels):cap(v.Levels)] {
		if level != nil {
			t.Fatalf("behind the levels lies %v", level)
		}
	}
}

func TestPromise13EditsStayInBytesAndReplays(t *testing.T) {
	var all []impl.Edit
	var stayed []func() bool
	for _, e := range givenEdits() {
		edit, same := looseEdit(e)
		a, ok := impl.EditBytes(edit)
		if b, too := impl.EditBytes(e); !same() || ok != too || !bytes.Equal(a, b) {
			t.Fatalf("EditBytes(%v) wrote into it or hangs on what lies behind", e)
		}
		for _, c := range a[len(a):cap(a)] {
			if c != 0 {
				t.Fatalf("behind EditBytes's answer lies %d", c)
			}
		}
		all, stayed = append(all, edit), append(stayed, same)
	}
	heads := slices.Clone(all)
	for from := range all {
		for _, many := range []int{0, 1, 10, mostEdits} {
			impl.ReplayEdits(all[from:min(len(all), from+many)])
		}
	}
	impl.ReplayEdits(all)
	for i, same := range stayed {
		if !same() || !sameEdit(all[i], heads[i]) {
			t.Fatalf("ReplayEdits wrote into %v", all[i])
		}
	}
	story := append(storyEdits(), impl.Edit{Next: 99, Log: 98, Seq: 99})
	checkReplay(t, "one more behind the length", story[:6], storyVersions()[6], 6)
}

func TestPromise13BytesOfEditsStay(t *testing.T) {
	for _, e := range givenEdits() {
		whole := plainEditBytes(e)
		room := append(slices.Clone(whole), "\x01\x01\x00\x00\x00behind"...)
		kept := slices.Clone(room)
		for _, many := range []int{0, 1, 3, len(whole) / 2, len(whole) - 1, len(whole)} {
			a, ok := impl.ReadEdit(room[:many])
			if b, too := impl.ReadEdit(slices.Clone(whole[:many])); ok != too || !sameEdit(a, b) {
				t.Fatalf("ReadEdit(%q) hangs on what lies behind", whole[:many])
			}
			for _, n := range a.Drops[len(a.Drops):cap(a.Drops)] {
				if n != 0 {
					t.Fatalf("behind the drops lies %d", n)
				}
			}
			for _, add := range a.Adds[len(a.Adds):cap(a.Adds)] {
				if add != (impl.Add{}) {
					t.Fatalf("behind the adds lies %v", add)
				}
			}
		}
		if !bytes.Equal(room, kept) {
			t.Fatalf("written into %q", kept)
		}
	}
}

// fillVersion writes into all the memory of an answer, one list after the other,
// and tells whether one's writing was not seen in another.
func fillVersion(v impl.Version) bool {
	for i, level := range v.Levels {
		row := level[:cap(level)]
		for j := range row {
			row[j] = metaOf(-1-i, "!", "!")
		}
	}
	for i, level := range v.Levels {
		for _, m := range level[:cap(level)] {
			if m.File != -1-i {
				return false
			}
		}
	}
	clear(v.Levels[:cap(v.Levels)])
	return true
}

func TestPromise13AppliedVersionsAreNew(t *testing.T) {
	for _, v := range givenVersions() {
		for _, e := range givenEdits() {
			given, edit := copyVersion(v), e
			edit.Drops, edit.Adds = slices.Clone(e.Drops), slices.Clone(e.Adds)
			one, _ := impl.ApplyEdit(given, edit)
			other, _ := impl.ApplyEdit(given, edit)
			want := copyVersion(other)
			if !fillVersion(one) || !sameVersion(given, v) || !sameEdit(edit, e) || !sameVersion(other, want) {
				t.Fatalf("ApplyEdit(%v, %v) shares memory", v, e)
			}
			fillVersion(given)
			clear(edit.Drops)
			clear(edit.Adds)
			if !sameVersion(other, want) {
				t.Fatalf("ApplyEdit(%v, %v) changed with its arguments", v, e)
			}
		}
	}
}

// Levels that lie behind each other in one row of memory must not run into each other.
func TestPromise13LevelsCutFromOneRow(t *testing.T) {
	row := slices.Concat(metasFrom(1, 3), metasFrom(11, 3), metasFrom(21, 3), metasFrom(31, 3))
	kept := slices.Clone(row)
	v := versionOf(100, 99, 0, row[0:3], row[3:6], row[6:9])
	want := versionOf(100, 99, 0, append(metasFrom(1, 3), metaOf(50, "x", "y")), append(metasFrom(11, 3), metaOf(51, "x", "y")), append(metasFrom(21, 3), metaOf(52, "x", "y")))
	e := editOn(v, nil, addOf(0, 50, "x", "y"), addOf(1, 51, "x", "y"), addOf(2, 52, "x", "y"))
	checkApply(t, "cut from one row", v, e, want)
	checkApply(t, "cut from one row, one dropped", v, editOn(v, []int{1}), versionOf(100, 99, 0, metasFrom(1, 3)[1:], metasFrom(11, 3), metasFrom(21, 3)))
	if !slices.Equal(row, kept) {
		t.Errorf("written into: %v", row)
	}
	same := metasFrom(1, 0)[:0]
	empty := versionOf(100, 99, 0, row[:0], row[:0], same)
	got, ok := impl.ApplyEdit(empty, editOn(empty, nil, addOf(0, 50, "x", "y"), addOf(1, 51, "x", "y")))
	if !ok || !slices.Equal(row, kept) || !sameVersion(got, versionOf(100, 99, 0, []impl.Meta{metaOf(50, "x", "y")}, []impl.Meta{metaOf(51, "x", "y")})) {
		t.Errorf("empty levels of one memory: %v, %v", got, ok)
	}
}

func TestPromise13ReplayedVersionsAreNew(t *testing.T) {
	for many := range len(storyEdits()) + 1 {
		l := storyEdits()[:many]
		one, _, _ := impl.ReplayEdits(l)
		other, _, _ := impl.ReplayEdits(l)
		if !fillVersion(one) || !slices.EqualFunc(l, storyEdits()[:many], sameEdit) || !sameVersion(other, storyVersions()[many]) {
			t.Fatalf("ReplayEdits(%v) shares memory", l)
		}
		for _, e := range l {
			clear(e.Drops)
			clear(e.Adds)
		}
		clear(l)
		if !sameVersion(other, storyVersions()[many]) {
			t.Fatalf("ReplayEdits(%v) changed with its argument", l)
		}
	}
}

func TestPromise13FirstVersionsAreNew(t *testing.T) {
	one, other := impl.FirstVersion(), impl.FirstVersion()
	for i := range one.Levels {
		one.Levels[i] = append(one.Levels[i], metaOf(i, "a", "b"))
	}
	for i, level := range one.Levels {
		if len(level) != 1 || level[0].File != i {
			t.Errorf("two levels share memory: %v", one)
		}
	}
	if !sameVersion(other, versionOf(2, 1, 0)) || !sameVersion(impl.FirstVersion(), versionOf(2, 1, 0)) {
		t.Error("two first versions share memory")
	}
}

func TestPromise13EditAnswersAreNew(t *testing.T) {
	for _, e := range goodEdits() {
		form := plainEditBytes(e)
		one, _ := impl.ReadEdit(form)
		other, _ := impl.ReadEdit(form)
		fill(form)
		if !sameEdit(one, e) {
			t.Fatalf("%v changed with its bytes", e)
		}
		clear(one.Drops[:cap(one.Drops)])
		clear(one.Adds[:cap(one.Adds)])
		if !sameEdit(other, e) {
			t.Fatalf("two answers of ReadEdit share memory: %v", other)
		}
		a, _ := impl.EditBytes(e)
		b, _ := impl.EditBytes(e)
		fill(a)
		if !bytes.Equal(b, plainEditBytes(e)) {
			t.Fatalf("two answers of EditBytes share memory: %q", b)
		}
	}
}

func TestPromise13FileListsAreNew(t *testing.T) {
	for _, v := range goodVersions() {
		kept := copyVersion(v)
		one, _ := impl.FilesOf(v)
		other, _ := impl.FilesOf(v)
		want := slices.Clone(other)
		for i := range one[:cap(one)] {
			one[:cap(one)][i] = math.MinInt
		}
		if !slices.Equal(other, want) || !sameVersion(v, kept) {
			t.Fatalf("FilesOf(%v) shares memory", kept)
		}
	}
}
