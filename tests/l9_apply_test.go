package tests

import (
	"math/rand"
	"slices"
	"strings"
	"testing"

	"loop.example/g00150/impl"
)

const mostEdits = 60

func addOf(level int, file int, least string, most string) impl.Add {
	return impl.Add{Level: level, Meta: metaOf(file, least, most)}
}

// editOn changes nothing of a version but what is told.
func editOn(v impl.Version, drops []int, adds ...impl.Add) impl.Edit {
	return impl.Edit{Next: v.Next, Log: v.Log, Seq: v.Seq, Drops: drops, Adds: adds}
}

// addsOf puts metas on a level.
func addsOf(level int, metas []impl.Meta) []impl.Add {
	var adds []impl.Add
	for _, m := range metas {
		adds = append(adds, impl.Add{Level: level, Meta: m})
	}
	return adds
}

func checkApply(t *testing.T, what string, v impl.Version, e impl.Edit, want impl.Version) {
	t.Helper()
	got, ok := impl.ApplyEdit(v, e)
	if !ok || !sameVersion(got, want) {
		t.Errorf("%s: ApplyEdit(%v, %v) = %v, %v, want %v", what, v, e, got, ok, want)
	}
	if ok && !impl.GoodVersion(got) {
		t.Errorf("%s: ApplyEdit(%v, %v) = %v, which is not good", what, v, e, got)
	}
}

func checkNotApplied(t *testing.T, what string, v impl.Version, e impl.Edit) {
	t.Helper()
	if got, ok := impl.ApplyEdit(v, e); ok || !sameVersion(got, impl.Version{}) {
		t.Errorf("%s: ApplyEdit(%v, %v) = %v, %v, want zero and false", what, v, e, got, ok)
	}
}

// storyEdits are what a store tells: three tables spilled, packed together, one more spilled, and packed down.
func storyEdits() []impl.Edit {
	return []impl.Edit{
		{Next: 4, Log: 3, Seq: 7, Adds: []impl.Add{addOf(0, 2, "c", "m")}},
		{Next: 6, Log: 5, Seq: 12, Adds: []impl.Add{addOf(0, 4, "a", "k")}},
		{Next: 8, Log: 7, Seq: 20, Adds: []impl.Add{addOf(0, 6, "b", "z")}},
		{Next: 10, Log: 7, Seq: 20, Drops: []int{2, 4, 6}, Adds: []impl.Add{addOf(1, 8, "a", "h"), addOf(1, 9, "i", "z")}},
		{Next: 12, Log: 11, Seq: 25, Adds: []impl.Add{addOf(0, 10, "d", "e")}},
		{Next: 13, Log: 11, Seq: 25, Drops: []int{8}, Adds: []impl.Add{addOf(2, 12, "a", "h")}},
	}
}

func storyVersions() []impl.Version {
	two, four, six, ten := metaOf(2, "c", "m"), metaOf(4, "a", "k"), metaOf(6, "b", "z"), metaOf(10, "d", "e")
	eight, nine, twelve := metaOf(8, "a", "h"), metaOf(9, "i", "z"), metaOf(12, "a", "h")
	return []impl.Version{
		versionOf(2, 1, 0),
		versionOf(4, 3, 7, []impl.Meta{two}),
		versionOf(6, 5, 12, []impl.Meta{two, four}),
		versionOf(8, 7, 20, []impl.Meta{two, four, six}),
		versionOf(10, 7, 20, nil, []impl.Meta{eight, nine}),
		versionOf(12, 11, 25, []impl.Meta{ten}, []impl.Meta{eight, nine}),
		versionOf(13, 11, 25, []impl.Meta{ten}, []impl.Meta{nine}, []impl.Meta{twelve}),
	}
}

func TestPromise9AStoryStepByStep(t *testing.T) {
	versions := storyVersions()
	for i, e := range storyEdits() {
		checkApply(t, "a step", versions[i], e, versions[i+1])
	}
}

func TestPromise9NumbersOfEditsOnVersions(t *testing.T) {
	v := versionOf(10, 5, 30, []impl.Meta{metaOf(3, "a", "b")})
	for _, c := range []struct {
		what string
		next int
		log  int
		seq  int
		ok   bool
	}{
		{"all as before", 10, 5, 30, true},
		{"Next less", 9, 5, 30, false},
		{"Next far less", 6, 5, 30, false},
		{"Next greater", 11, 5, 30, true},
		{"the greatest Next", topFile, 5, 30, true},
		{"Seq less", 10, 5, 29, false},
		{"Seq 0", 10, 5, 0, false},
		{"Seq greater", 10, 5, 31, true},
		{"the greatest Seq", 10, 5, topSeq, true},
		{"Next greater, Seq less", 11, 5, 29, false},
		{"Next less, Seq greater", 9, 5, 31, false},
		{"all greater", 12, 11, 40, true},
		{"Log less", 10, 4, 30, true},
		{"Log 1", 10, 1, 30, true},
		{"Log greater", 10, 9, 30, true},
		{"Log is Next", 10, 10, 30, false},
		{"Log is the greater Next", 12, 12, 30, false},
		{"Log is the Next before", 11, 10, 30, true},
		{"Log above Next", 10, 11, 30, false},
		{"Log is a File", 10, 3, 30, false},
	} {
		e := impl.Edit{Next: c.next, Log: c.log, Seq: c.seq}
		if !c.ok {
			checkNotApplied(t, c.what, v, e)
			continue
		}
		checkApply(t, c.what, v, e, versionOf(c.next, c.log, c.seq, []impl.Meta{metaOf(3, "a", "b")}))
	}
	checkApply(t, "Log is a File that is dropped", v, impl.Edit{Next: 10, Log: 3, Seq: 30, Drops: []int{3}}, versionOf(10, 3, 30))
	checkApply(t, "the Log before as a File", v, impl.Edit{Next: 10, Log: 6, Seq: 30, Adds: []impl.Add{addOf(0, 5, "k", "k")}},
		versionOf(10, 6, 30, []impl.Meta{metaOf(3, "a", "b"), metaOf(5, "k", "k")}))
}

// threeLevels has three metas on each, whose Files lie among each other's.
func threeLevels() impl.Version {
	return versionOf(50, 40, 9,
		[]impl.Meta{metaOf(9, "m", "z"), metaOf(1, "a", "f"), metaOf(8, "a", "z")},
		[]impl.Meta{metaOf(5, "a", "c"), metaOf(2, "f", "h"), metaOf(7, "k", "p")},
		[]impl.Meta{metaOf(3, "b", "d"), metaOf(6, "e", "o"), metaOf(4, "q", "s")})
}

func TestPromise9DropsOfEveryFewFiles(t *testing.T) {
	v := threeLevels()
	for chosen := range 1 << 9 {
		var drops []int
		want := versionOf(50, 40, 9)
		for level, metas := range v.Levels {
			for i, m := range metas {
				if chosen>>(3*level+i)&1 == 1 {
					drops = append(drops, m.File)
				} else {
					want.Levels[level] = append(want.Levels[level], m)
				}
			}
		}
		checkApply(t, "dropped", v, editOn(v, drops), want)
		slices.Reverse(drops)
		checkApply(t, "dropped in another order", v, editOn(v, drops), want)
	}
}

func TestPromise9DropsThatAreNotThere(t *testing.T) {
	v := threeLevels()
	for _, drops := range [][]int{
		{10}, {40}, {50}, {51}, {topFile}, {1, 10}, {10, 1}, {9, 2, 4, 11}, {11, 9, 2, 4},
		{1, 1}, {2, 2}, {3, 3}, {1, 2, 3, 1}, {9, 8, 8}, {5, 5, 6},
	} {
		checkNotApplied(t, "a File that is not there", v, editOn(v, drops))
		checkNotApplied(t, "a File that is not there, and adds", v, editOn(v, drops, addOf(0, 30, "a", "b")))
	}
	checkNotApplied(t, "no File at all", impl.FirstVersion(), editOn(impl.FirstVersion(), []int{1}))
	// Drops are ahead of adds, so that what is added is not there yet.
	checkNotApplied(t, "a File that is added too", v, editOn(v, []int{30}, addOf(0, 30, "a", "b")))
	checkNotApplied(t, "a File twice that is added too", v, editOn(v, []int{1, 1}, addOf(0, 1, "a", "b")))
}

func TestPromise9FilesDroppedAndAdded(t *testing.T) {
	v := threeLevels()
	for file := 1; file <= 9; file++ {
		for level := range impl.MaxLevels {
			left, _ := impl.ApplyEdit(v, editOn(v, []int{file}))
			want := copyVersion(left)
			want.Levels[level] = append(want.Levels[level], metaOf(file, "za", "zz"))
			checkApply(t, "dropped and added", v, editOn(v, []int{file}, addOf(level, file, "za", "zz")), want)
		}
	}
	same := editOn(v, []int{5, 2, 7}, addOf(1, 7, "k", "p"), addOf(1, 5, "a", "c"), addOf(1, 2, "f", "h"))
	checkApply(t, "the same on level 1", v, same, v)
	want := copyVersion(v)
	want.Levels[0] = []impl.Meta{metaOf(1, "a", "f"), metaOf(8, "a", "z"), metaOf(9, "m", "z")}
	checkApply(t, "the oldest of level 0", v, editOn(v, []int{9}, addOf(0, 9, "m", "z")), want)
}

func TestPromise9AddsOfLevel0AreBehind(t *testing.T) {
	v := onLevel(0, metaOf(20, "k", "m"), metaOf(10, "g", "z"))
	for _, add := range []impl.Add{addOf(0, 1, "a", "b"), addOf(0, 15, "h", "h"), addOf(0, 30, "k", "m"), addOf(0, 30, "z", "z"), addOf(0, 5, "g", "k")} {
		checkApply(t, "one", v, editOn(v, nil, add), onLevel(0, v.Levels[0][0], v.Levels[0][1], add.Meta))
		other := addOf(0, 99, "b", "c")
		checkApply(t, "two", v, editOn(v, nil, add, other), onLevel(0, v.Levels[0][0], v.Levels[0][1], add.Meta, other.Meta))
		checkApply(t, "two the other way", v, editOn(v, nil, other, add), onLevel(0, v.Levels[0][0], v.Levels[0][1], other.Meta, add.Meta))
		checkApply(t, "behind a drop", v, editOn(v, []int{10}, add, other), onLevel(0, v.Levels[0][0], add.Meta, other.Meta))
	}
}

func TestPromise9AddsInTheirPlace(t *testing.T) {
	c, g, m := metaOf(20, "c", "e"), metaOf(10, "g", "k"), metaOf(30, "m", "p")
	for level := 1; level < impl.MaxLevels; level++ {
		v := onLevel(level, c, g, m)
		for _, at := range []struct {
			what string
			add  impl.Meta
			want []impl.Meta
		}{
			{"front", metaOf(5, "a", "b"), []impl.Meta{metaOf(5, "a", "b"), c, g, m}},
			{"just ahead", metaOf(99, "b", "b\xff"), []impl.Meta{metaOf(99, "b", "b\xff"), c, g, m}},
			{"between", metaOf(5, "f", "f"), []impl.Meta{c, metaOf(5, "f", "f"), g, m}},
			{"just between", metaOf(99, "e\x00", "fz"), []impl.Meta{c, metaOf(99, "e\x00", "fz"), g, m}},
			{"between the last two", metaOf(15, "l", "lz"), []impl.Meta{c, g, metaOf(15, "l", "lz"), m}},
			{"behind", metaOf(1, "q", "z"), []impl.Meta{c, g, m, metaOf(1, "q", "z")}},
			{"just behind", metaOf(99, "p\x00", "p\x00"), []impl.Meta{c, g, m, metaOf(99, "p\x00", "p\x00")}},
		} {
			checkApply(t, at.what, v, editOn(v, nil, impl.Add{Level: level, Meta: at.add}), onLevel(level, at.want...))
		}
	}
}

func TestPromise9AddsInAnyOrder(t *testing.T) {
	metas := []impl.Meta{metaOf(4, "a", "b"), metaOf(2, "c", "d"), metaOf(5, "e", "f"), metaOf(1, "g", "h"), metaOf(3, "i", "j")}
	for level := range impl.MaxLevels {
		eachOrder(addsOf(level, metas), 0, func(adds []impl.Add) {
			want := metas
			if level == 0 {
				want = nil
				for _, a := range adds {
					want = append(want, a.Meta)
				}
			}
			v := onLevel(level)
			checkApply(t, "all at once", v, editOn(v, nil, adds...), onLevel(level, want...))
			for _, a := range adds {
				v, _ = impl.ApplyEdit(v, editOn(v, nil, a))
			}
			if !sameVersion(v, onLevel(level, want...)) {
				t.Errorf("one after the other: %v, want %v", v, want)
			}
		})
	}
}

func TestPromise9AddsWithTheSameLeast(t *testing.T) {
	for level := range impl.MaxLevels {
		v := onLevel(level, metaOf(1, "c", "e"))
		for _, add := range []impl.Add{addOf(level, 2, "c", "c"), addOf(level, 2, "c", "e"), addOf(level, 2, "c", "z")} {
			if level == 0 {
				checkApply(t, "the same Least", v, editOn(v, nil, add), onLevel(0, v.Levels[0][0], add.Meta))
				continue
			}
			checkNotApplied(t, "the same Least", v, editOn(v, nil, add))
			checkApply(t, "the same Least behind a drop", v, editOn(v, []int{1}, add), onLevel(level, add.Meta))
		}
		one, two := addOf(level, 2, "k", "k"), addOf(level, 3, "k", "m")
		if level > 0 {
			checkNotApplied(t, "the same Least in two adds", v, editOn(v, nil, one, two))
			checkNotApplied(t, "the same Least in two adds", v, editOn(v, nil, two, one))
		}
	}
}

func TestPromise9AddsThatMakeItNotGood(t *testing.T) {
	v := threeLevels()
	for _, c := range []struct {
		what string
		adds []impl.Add
	}{
		{"over one of level 1", []impl.Add{addOf(1, 30, "b", "d")}},
		{"over a Least of level 1", []impl.Add{addOf(1, 30, "i", "k")}},
		{"over a Most of level 1", []impl.Add{addOf(1, 30, "c", "d")}},
		{"in one of level 1", []impl.Add{addOf(1, 30, "l", "m")}},
		{"over all of level 1", []impl.Add{addOf(1, 30, "Z", "z")}},
		{"over one of level 2", []impl.Add{addOf(2, 30, "a", "b")}},
		{"over two of level 2", []impl.Add{addOf(2, 30, "d", "e")}},
		{"two that overlap", []impl.Add{addOf(1, 30, "q", "t"), addOf(1, 31, "s", "z")}},
		{"a File of level 0", []impl.Add{addOf(0, 9, "q", "r")}},
		{"a File of level 1", []impl.Add{addOf(0, 5, "q", "r")}},
		{"a File of level 2", []impl.Add{addOf(1, 3, "q", "r")}},
		{"a File twice", []impl.Add{addOf(0, 30, "q", "r"), addOf(2, 30, "w", "x")}},
		{"the Log", []impl.Add{addOf(0, 40, "q", "r")}},
		{"Next", []impl.Add{addOf(0, 50, "q", "r")}},
		{"above Next", []impl.Add{addOf(0, 51, "q", "r")}},
		{"the greatest File", []impl.Add{addOf(0, topFile, "q", "r")}},
		{"one good and one not", []impl.Add{addOf(0, 30, "q", "r"), addOf(0, 50, "q", "r")}},
	} {
		checkNotApplied(t, c.what, v, editOn(v, nil, c.adds...))
	}
	up := impl.Edit{Next: 51, Log: 40, Seq: 9, Adds: []impl.Add{addOf(0, 50, "q", "r")}}
	want := copyVersion(v)
	want.Next, want.Levels[0] = 51, append(want.Levels[0], metaOf(50, "q", "r"))
	checkApply(t, "the Next before", v, up, want)
	up.Log = 50
	checkNotApplied(t, "the new Log", v, up)
}

func TestPromise9TwelveOnALevel(t *testing.T) {
	for level := range impl.MaxLevels {
		metas := metasFrom(100, mostMetas+2)
		eleven, twelve := onLevel(level, metas[:11]...), onLevel(level, metas[:12]...)
		checkApply(t, "the twelfth", eleven, editOn(eleven, nil, addsOf(level, metas[11:12])...), twelve)
		checkNotApplied(t, "the thirteenth too", eleven, editOn(eleven, nil, addsOf(level, metas[11:13])...))
		checkNotApplied(t, "the thirteenth", twelve, editOn(twelve, nil, addsOf(level, metas[12:13])...))
		checkNotApplied(t, "the thirteenth on an empty one", onLevel(level), editOn(onLevel(level), nil, addsOf(level, metas[:13])...))
		checkApply(t, "all twelve", onLevel(level), editOn(onLevel(level), nil, addsOf(level, metas[:12])...), twelve)
		checkApply(t, "one for one", twelve, editOn(twelve, []int{100}, addsOf(level, metas[12:13])...), onLevel(level, metas[1:13]...))
		checkNotApplied(t, "two for one", twelve, editOn(twelve, []int{100}, addsOf(level, metas[12:14])...))
		var files []int
		for _, m := range metas[:12] {
			files = append(files, m.File)
		}
		checkApply(t, "all away", twelve, editOn(twelve, files), onLevel(level))
		checkApply(t, "all away and anew", twelve, editOn(twelve, files, addsOf(level, metas[2:14])...), onLevel(level, metas[2:14]...))
	}
}

func TestPromise9TwentyFourDropsAndAdds(t *testing.T) {
	v := fullVersion()
	var drops []int
	for _, m := range slices.Concat(v.Levels[0], v.Levels[1]) {
		drops = append(drops, m.File)
	}
	adds := slices.Concat(addsOf(1, metasFrom(301, mostMetas)), addsOf(0, metasFrom(401, mostMetas)))
	want := versionOf(v.Next, v.Log, v.Seq, metasFrom(401, mostMetas), metasFrom(301, mostMetas), v.Levels[2])
	checkApply(t, "24 of each", v, editOn(v, drops, adds...), want)
	slices.Reverse(drops)
	checkApply(t, "24 drops the other way", v, editOn(v, drops, adds...), want)
	checkApply(t, "24 drops", v, editOn(v, drops), versionOf(v.Next, v.Log, v.Seq, nil, nil, v.Levels[2]))
	checkApply(t, "24 adds", versionOf(v.Next, v.Log, v.Seq, nil, nil, v.Levels[2]), editOn(v, nil, adds...), want)
}

// plainGood tells by the chapter's words whether a version is good.
func plainGood(v impl.Version) bool {
	good := v.Next >= 1 && v.Next <= topFile && v.Log >= 1 && v.Log <= v.Next-1 && v.Seq >= 0 && v.Seq <= topSeq && len(v.Levels) == 3
	seen := map[int]int{v.Log: 1}
	for i, level := range v.Levels {
		good = good && len(level) <= mostMetas
		for j, m := range level {
			seen[m.File]++
			good = good && seen[m.File] == 1 && m.File < v.Next && (i == 0 || j == 0 || level[j-1].Most < m.Least)
		}
	}
	return good
}

// plainApply does by the chapter's words a good edit on a good version.
func plainApply(v impl.Version, e impl.Edit) (impl.Version, bool) {
	out := copyVersion(v)
	out.Next, out.Log, out.Seq = e.Next, e.Log, e.Seq
	ok := e.Next >= v.Next && e.Seq >= v.Seq
	for _, file := range e.Drops {
		gone := false
		for i := range out.Levels {
			many := len(out.Levels[i])
			out.Levels[i] = slices.DeleteFunc(out.Levels[i], func(m impl.Meta) bool { return m.File == file })
			gone = gone || len(out.Levels[i]) < many
		}
		ok = ok && gone
	}
	for _, a := range e.Adds {
		out.Levels[a.Level] = append(out.Levels[a.Level], a.Meta)
		if a.Level > 0 {
			slices.SortStableFunc(out.Levels[a.Level], func(a, b impl.Meta) int { return strings.Compare(a.Least, b.Least) })
		}
	}
	if !ok || !plainGood(out) {
		return impl.Version{}, false
	}
	return out, true
}

// drawEdit is an edit that often fits the version, and often just does not.
func drawEdit(r *rand.Rand, v impl.Version) impl.Edit {
	e := impl.Edit{Next: v.Next + r.Intn(3), Log: v.Log, Seq: v.Seq + r.Intn(3)}
	if r.Intn(3) == 0 {
		e.Log = 1 + r.Intn(e.Next)
	}
	if r.Intn(20) == 0 {
		e.Next, e.Seq = max(1, e.Next-1), max(0, e.Seq-1)
	}
	for _, level := range v.Levels {
		for _, m := range level {
			if r.Intn(8) == 0 && len(e.Drops) < 24 {
				e.Drops = append(e.Drops, m.File)
			}
		}
	}
	if r.Intn(10) == 0 {
		e.Drops = append(e.Drops[:len(e.Drops)/2], 1+r.Intn(e.Next))
	}
	for range r.Intn(4) {
		at := r.Intn(90)
		least := string([]byte{'!' + byte(at)})
		most := string([]byte{'!' + byte(at+r.Intn(4))})
		e.Adds = append(e.Adds, addOf(r.Intn(3), 1+r.Intn(e.Next+1), least, most))
	}
	return e
}

func TestPromise9DrawnEditsByWords(t *testing.T) {
	r := rand.New(rand.NewSource(92))
	applied, refused := 0, 0
	for range 100 {
		v := versionOf(2+r.Intn(60), 1, 0)
		for range 120 {
			e := drawEdit(r, v)
			want, ok := plainApply(v, e)
			if !ok {
				refused++
				checkNotApplied(t, "drawn", v, e)
				continue
			}
			applied++
			checkApply(t, "drawn", v, e, want)
			v = want
		}
	}
	if applied < 3000 || refused < 2000 {
		t.Errorf("%d were applied and %d refused: these draws tell too little", applied, refused)
	}
}

// risingEdits always apply, from the first version on.
func risingEdits(many int) []impl.Edit {
	var out []impl.Edit
	for i := range many {
		e := impl.Edit{Next: 4 + 2*i, Log: 3 + 2*i, Seq: 5 * (i + 1), Adds: []impl.Add{addOf(0, 2+2*i, "a", "b")}}
		if i >= mostMetas {
			e.Drops = []int{2 + 2*(i-mostMetas)}
		}
		out = append(out, e)
	}
	return out
}

func checkReplay(t *testing.T, what string, l []impl.Edit, want impl.Version, applied int) {
	t.Helper()
	v, many, ok := impl.ReplayEdits(l)
	if !ok || many != applied || !sameVersion(v, want) {
		t.Errorf("%s: ReplayEdits(%v) = %v, %d, %v, want %v, %d", what, l, v, many, ok, want, applied)
	}
}

func TestPromise9ReplayAStory(t *testing.T) {
	edits, versions := storyEdits(), storyVersions()
	for many := range len(edits) + 1 {
		checkReplay(t, "the front of a story", edits[:many], versions[many], many)
	}
	checkReplay(t, "no edits", nil, versionOf(2, 1, 0), 0)
	checkReplay(t, "no edits", []impl.Edit{}, versionOf(2, 1, 0), 0)
}

func TestPromise9ReplayUpToSixtyEdits(t *testing.T) {
	want := impl.FirstVersion()
	for many := range mostEdits + 1 {
		checkReplay(t, "so many", risingEdits(many), want, many)
		next, ok := impl.ApplyEdit(want, risingEdits(many + 1)[many])
		if !ok {
			t.Fatalf("%d does not apply", many)
		}
		want = next
	}
	last, _, _ := impl.ReplayEdits(risingEdits(mostEdits))
	if last.Next != 122 || last.Log != 121 || last.Seq != 300 || len(last.Levels[0]) != mostMetas || last.Levels[0][0].File != 98 {
		t.Errorf("behind 60 edits there is %v", last)
	}
	same := impl.Edit{Next: 2, Log: 1}
	checkReplay(t, "60 edits of nothing", slices.Repeat([]impl.Edit{same}, mostEdits), impl.FirstVersion(), mostEdits)
}

func TestPromise9ReplayEndsAtTheFirstThatDoesNotApply(t *testing.T) {
	bad := func(v impl.Version) []impl.Edit {
		less := editOn(v, nil)
		less.Next--
		out := []impl.Edit{less, editOn(v, []int{v.Log}), editOn(v, nil, addOf(0, v.Next, "a", "b")), {}, editOn(v, nil, addOf(3, 1, "a", "b"))}
		return append(out, editOn(v, []int{0}), editOn(v, make([]int, 25)))
	}
	for _, many := range []int{1, 2, 30, 59, mostEdits} {
		for _, at := range []int{0, 1, many / 2, many - 1} {
			if at >= many {
				continue
			}
			want, _, _ := impl.ReplayEdits(risingEdits(at))
			for _, e := range bad(want) {
				l := risingEdits(many)
				l[at] = e
				checkReplay(t, "one that does not apply", l, want, at)
			}
		}
	}
	edits, versions := storyEdits(), storyVersions()
	edits[3].Drops = []int{2, 4, 5}
	checkReplay(t, "in the middle of a story", edits, versions[3], 3)
}
