package tests

import (
	"slices"
	"strconv"
	"testing"

	"loop.example/g00150/impl"
)

// A plainDisk keeps files as texts, in two parts: what is synced and what is not.
type plainDisk struct {
	quota int
	names []string
	safe  []string
	loose []string
}

func (d *plainDisk) place(name string) int {
	return slices.Index(d.names, name)
}

func (d *plainDisk) used() int {
	sum := 0
	for i := range d.names {
		sum += len(d.safe[i]) + len(d.loose[i])
	}
	return sum
}

func (d *plainDisk) create(name string) int {
	if d.place(name) >= 0 {
		return impl.FileTwice
	}
	if len(d.names) == impl.MaxFiles {
		return impl.FileFull
	}
	d.names, d.safe, d.loose = append(d.names, name), append(d.safe, ""), append(d.loose, "")
	return impl.FileOk
}

func (d *plainDisk) drop(name string) {
	at := d.place(name)
	d.names, d.safe, d.loose = slices.Delete(d.names, at, at+1), slices.Delete(d.safe, at, at+1), slices.Delete(d.loose, at, at+1)
}

func (d *plainDisk) change(op int, name string, other string, data string) int {
	at := d.place(name)
	if op == 0 {
		return d.create(name)
	}
	if at < 0 {
		return impl.FileNone
	}
	switch op {
	case 1:
		if d.used()+len(data) > d.quota {
			return impl.FileFull
		}
		d.loose[at] += data
	case 2:
		d.safe[at], d.loose[at] = d.safe[at]+d.loose[at], ""
	case 3:
		if name == other {
			return impl.FileOk
		}
		if d.place(other) >= 0 {
			d.drop(other)
		}
		d.names[d.place(name)] = other
	case 4:
		d.drop(name)
	}
	return impl.FileOk
}

func (d *plainDisk) files() impl.Files {
	f := impl.Files{Quota: d.quota}
	for _, name := range slices.Sorted(slices.Values(d.names)) {
		at := d.place(name)
		f.Files = append(f.Files, fileOf(name, d.safe[at]+d.loose[at], len(d.safe[at])))
	}
	return f
}

func (d *plainDisk) crash(draws []int) {
	for _, name := range slices.Sorted(slices.Values(d.names)) {
		at := d.place(name)
		if d.loose[at] == "" {
			continue
		}
		draw := 0
		if len(draws) > 0 {
			draw, draws = draws[0], draws[1:]
		}
		d.safe[at] += d.loose[at][:staying(draw, len(d.loose[at]))]
		d.loose[at] = ""
	}
}

func changeFiles(f impl.Files, op int, name string, other string, data string) (impl.Files, int) {
	switch op {
	case 0:
		return impl.CreateFile(f, name)
	case 1:
		return impl.AppendFile(f, name, []byte(data))
	case 2:
		return impl.SyncFile(f, name)
	case 3:
		return impl.RenameFile(f, name, other)
	}
	return impl.RemoveFile(f, name)
}

// A dice gives the same row of numbers for the same seed.
type dice uint64

func (d *dice) below(n int) int {
	*d = *d*6364136223846793005 + 1442695040888963407
	return int(uint64(*d>>33) % uint64(n))
}

func TestPromise2LongPlays(t *testing.T) {
	for seed := range 12 {
		quota := []int{0, 1, 30, 200, 3000, impl.MaxQuota}[seed%6]
		names := []int{3, 8, 60}[seed%3]
		playFiles(t, dice(seed*977+5), quota, names)
	}
}

func playFiles(t *testing.T, d dice, quota int, names int) {
	t.Helper()
	model := &plainDisk{quota: quota}
	f := impl.Files{Quota: quota}
	for step := range 600 {
		name, other := "n-"+strconv.Itoa(d.below(names)), "n-"+strconv.Itoa(d.below(names))
		op := []int{0, 0, 0, 1, 1, 1, 2, 3, 4}[d.below(9)]
		data := string("abcdefghijklmnopqrstuvwxyz"[:d.below(27)])
		got, code := changeFiles(f, op, name, other, data)
		if want := model.change(op, name, other, data); code != want {
			t.Fatalf("step %d: op %d of %s: code %d, want %d", step, op, name, code, want)
		}
		if d.below(10) == 0 {
			draws := []int{d.below(100) - 50, d.below(100) - 50, d.below(100) - 50}
			model.crash(draws)
			got, code = impl.CrashFiles(got, draws)
			if code != impl.FileOk {
				t.Fatalf("step %d: CrashFiles tells %d", step, code)
			}
		}
		f = got
		if !sameFiles(f, model.files()) || !impl.GoodFiles(f) {
			t.Fatalf("step %d: op %d of %s: %v, want %v", step, op, name, f, model.files())
		}
		if used, ok := impl.UsedBytes(f); used != model.used() || used > quota || !ok {
			t.Fatalf("step %d: UsedBytes = %d, %v, want %d", step, used, ok, model.used())
		}
	}
}
