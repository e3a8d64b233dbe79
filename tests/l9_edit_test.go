package tests

import (
	"bytes"
	"math"
	"math/rand"
	"slices"
	"strings"
	"testing"

	"loop.example/g00150/impl"
)

const mostOfEdit = 24

func sameEdit(a impl.Edit, b impl.Edit) bool {
	return a.Next == b.Next && a.Log == b.Log && a.Seq == b.Seq && slices.Equal(a.Drops, b.Drops) && slices.Equal(a.Adds, b.Adds)
}

// editParts are the parts of an edit's bytes, one for each number and text,
// without asking whether it is good.
func editParts(e impl.Edit) [][]byte {
	parts := [][]byte{varOf(e.Next), varOf(e.Log), varOf(e.Seq), varOf(len(e.Drops))}
	for _, file := range e.Drops {
		parts = append(parts, varOf(file))
	}
	parts = append(parts, varOf(len(e.Adds)))
	for _, a := range e.Adds {
		m := a.Meta
		parts = append(parts, varOf(a.Level), varOf(m.File), varOf(m.Many))
		parts = append(parts, varOf(len(m.Least)), []byte(m.Least), varOf(len(m.Most)), []byte(m.Most))
	}
	return parts
}

func plainEditBytes(e impl.Edit) []byte {
	return bytes.Join(editParts(e), nil)
}

// longestEdit is as long in bytes as one may be.
func longestEdit() impl.Edit {
	text := strings.Repeat("\xff", impl.MaxKeyBytes)
	e := impl.Edit{Next: topFile, Log: topFile, Seq: topSeq}
	for range mostOfEdit {
		e.Drops = append(e.Drops, topFile)
		e.Adds = append(e.Adds, impl.Add{Level: 2, Meta: impl.Meta{File: topFile, Least: text, Most: text, Many: impl.MaxEntries}})
	}
	return e
}

func goodEdits() []impl.Edit {
	out := append(storyEdits(),
		impl.Edit{Next: 1, Log: 1},
		impl.Edit{Next: 1, Log: 1, Drops: []int{}, Adds: []impl.Add{}},
		impl.Edit{Next: 1, Log: topFile},
		impl.Edit{Next: topFile, Log: 1, Seq: topSeq},
		impl.Edit{Next: 127, Log: 128, Seq: 129},
		impl.Edit{Next: 16383, Log: 16384, Seq: 2097152},
		impl.Edit{Next: 5, Log: 9, Seq: 1, Drops: []int{1, 1, topFile, 3, 2}},
		impl.Edit{Next: 5, Log: 9, Adds: []impl.Add{addOf(2, 7, "\x00", "\xff"), addOf(0, 7, "k", "k"), addOf(1, topFile, "a", "a")}},
		longestEdit(),
		impl.Edit{Next: 7, Log: 3, Drops: slices.Repeat([]int{1}, mostOfEdit)},
		impl.Edit{Next: 7, Log: 3, Adds: slices.Repeat([]impl.Add{addOf(0, 1, "a", "b")}, mostOfEdit)},
	)
	for _, many := range []int{1, 127, 128, 139, impl.MaxKeyBytes} {
		text := strings.Repeat("k", many)
		for level := range impl.MaxLevels {
			out = append(out, impl.Edit{Next: 9, Log: 8, Adds: []impl.Add{
				addOf(level, 3, text, text), addOf(level, 4, "k", text), addOf(level, 5, text, "l"),
			}})
		}
	}
	for _, many := range []int{1, 2, impl.MaxEntries} {
		out = append(out, impl.Edit{Next: 9, Log: 8, Drops: []int{many}, Adds: []impl.Add{{Level: 1, Meta: impl.Meta{File: 2, Least: "a", Most: "z", Many: many}}}})
	}
	return out
}

func checkEdit(t *testing.T, e impl.Edit) []byte {
	t.Helper()
	b, ok := impl.EditBytes(e)
	if !ok || !bytes.Equal(b, plainEditBytes(e)) {
		t.Fatalf("EditBytes(%v) = %q, %v, want %q", e, b, ok, plainEditBytes(e))
	}
	if got, ok := impl.ReadEdit(b); !ok || !sameEdit(got, e) {
		t.Fatalf("ReadEdit(%q) = %v, %v, want %v", b, got, ok, e)
	}
	return b
}

func checkNoEdit(t *testing.T, what string, b []byte) {
	t.Helper()
	if e, ok := impl.ReadEdit(b); ok || !sameEdit(e, impl.Edit{}) {
		t.Errorf("%s: ReadEdit(%q) = %v, %v, want zero and false", what, b, e, ok)
	}
}

// checkEditOrNone: ReadEdit may answer true only where the edit that it tells has just these bytes.
func checkEditOrNone(t *testing.T, b []byte) bool {
	t.Helper()
	e, ok := impl.ReadEdit(b)
	if !ok {
		checkNoEdit(t, "none", b)
		return false
	}
	if form, good := impl.EditBytes(e); !good || !bytes.Equal(form, b) || !bytes.Equal(plainEditBytes(e), b) {
		t.Fatalf("ReadEdit(%q) = %v, whose bytes are %q", b, e, form)
	}
	return true
}

func TestPromise9EditsByBytes(t *testing.T) {
	for _, c := range []struct {
		edit impl.Edit
		want string
	}{
		{impl.Edit{Next: 1, Log: 1}, "\x01\x01\x00\x00\x00"},
		{impl.Edit{Next: 4, Log: 3, Seq: 300}, "\x04\x03\xac\x02\x00\x00"},
		{impl.Edit{Next: 4, Log: 3, Seq: 7, Drops: []int{9, 200}}, "\x04\x03\x07\x02\x09\xc8\x01\x00"},
		{
			impl.Edit{Next: 4, Log: 3, Seq: 7, Adds: []impl.Add{{Level: 1, Meta: impl.Meta{File: 2, Least: "ab", Most: "b", Many: 5}}}},
			"\x04\x03\x07\x00\x01\x01\x02\x05\x02ab\x01b",
		},
		{
			impl.Edit{Next: topFile, Log: 5, Seq: topSeq, Drops: []int{6}, Adds: []impl.Add{
				{Level: 2, Meta: impl.Meta{File: 8, Least: "k", Most: "k\x00", Many: 100}},
				{Level: 0, Meta: impl.Meta{File: topFile, Least: "\x00", Most: "\xff", Many: 1}},
			}},
			"\xa0\x8d\x06\x05\x80\x94\xeb\xdc\x03\x01\x06\x02\x02\x08\x64\x01k\x02k\x00\x00\xa0\x8d\x06\x01\x01\x00\x01\xff",
		},
	} {
		if b, ok := impl.EditBytes(c.edit); !ok || string(b) != c.want {
			t.Errorf("EditBytes(%v) = %q, %v, want %q", c.edit, b, ok, c.want)
		}
		if e, ok := impl.ReadEdit([]byte(c.want)); !ok || !sameEdit(e, c.edit) {
			t.Errorf("ReadEdit(%q) = %v, %v, want %v", c.want, e, ok, c.edit)
		}
	}
}

func TestPromise9EditsComeBack(t *testing.T) {
	for _, e := range goodEdits() {
		checkEdit(t, e)
	}
	for drops := range mostOfEdit + 1 {
		for adds := range mostOfEdit + 1 {
			e := longestEdit()
			e.Drops, e.Adds = e.Drops[:drops], e.Adds[:adds]
			checkEdit(t, e)
		}
	}
}

func TestPromise9DrawnEditsComeBack(t *testing.T) {
	r := rand.New(rand.NewSource(93))
	text := func() string {
		b := make([]byte, 1+r.Intn(impl.MaxKeyBytes))
		r.Read(b)
		return string(b)
	}
	for range 500 {
		e := impl.Edit{Next: 1 + r.Intn(topFile), Log: 1 + r.Intn(topFile), Seq: r.Intn(topSeq + 1)}
		for range r.Intn(mostOfEdit + 1) {
			e.Drops = append(e.Drops, 1+r.Intn(topFile))
		}
		for range r.Intn(mostOfEdit + 1) {
			least, most := text(), text()
			m := impl.Meta{File: 1 + r.Intn(topFile), Least: min(least, most), Most: max(least, most), Many: 1 + r.Intn(impl.MaxEntries)}
			e.Adds = append(e.Adds, impl.Add{Level: r.Intn(impl.MaxLevels), Meta: m})
		}
		checkEdit(t, e)
	}
}

func TestPromise9EditsCutAndLonger(t *testing.T) {
	for _, e := range goodEdits() {
		b := checkEdit(t, e)
		for cut := range b {
			checkNoEdit(t, "cut", b[:cut])
		}
		for c := range 256 {
			checkNoEdit(t, "one more", append(slices.Clone(b), byte(c)))
		}
		checkNoEdit(t, "twice", slices.Concat(b, b))
	}
}

func TestPromise9NumbersOfEditsInALongerForm(t *testing.T) {
	for _, e := range goodEdits() {
		parts := editParts(e)
		for i, part := range parts {
			if isTextPart(e, i) {
				continue
			}
			for _, form := range longer(part) {
				other := slices.Clone(parts)
				other[i] = form
				checkNoEdit(t, "a longer form", bytes.Join(other, nil))
			}
		}
	}
}

// isTextPart: behind the drops each add has seven parts, of which the fifth and the seventh are texts.
func isTextPart(e impl.Edit, i int) bool {
	of := i - 5 - len(e.Drops)
	return of >= 0 && (of%7 == 4 || of%7 == 6)
}

func TestPromise9NumbersOfEditsThatAreTooGreat(t *testing.T) {
	for _, e := range goodEdits() {
		parts := editParts(e)
		for i := range parts {
			if isTextPart(e, i) {
				continue
			}
			for _, n := range []int{1 << 30, 1 << 32, 1<<32 + 1, math.MaxInt, math.MaxInt - 1, math.MinInt, -1, -2} {
				other := slices.Clone(parts)
				other[i] = varOf(n)
				checkNoEdit(t, "a number that is too great", bytes.Join(other, nil))
			}
		}
	}
}

func TestPromise9EachByteOfEditsChanged(t *testing.T) {
	read := 0
	for _, e := range goodEdits() {
		b := plainEditBytes(e)
		if len(b) > 150 {
			continue
		}
		for i := range b {
			checkEditOrNone(t, slices.Delete(slices.Clone(b), i, i+1))
			checkEditOrNone(t, b[i:])
			for c := range 256 {
				other := slices.Clone(b)
				other[i] = byte(c)
				if checkEditOrNone(t, other) {
					read++
				}
				checkEditOrNone(t, slices.Insert(slices.Clone(b), i, byte(c)))
			}
		}
	}
	if read < 5000 {
		t.Errorf("only %d changed bytes were read", read)
	}
}

func TestPromise9BytesOfEditsThatAreNotGood(t *testing.T) {
	for _, c := range badEdits() {
		checkNoEdit(t, c.what, plainEditBytes(c.edit))
	}
}
