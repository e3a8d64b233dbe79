package impl

import (
	"cmp"
	"math"
	"slices"
)

const MaxTags = 4
const MaxStart = 1000000000

const maxVar = 10
const maxFixed = 8
const maxName = 12

// These bytes are less than every letter, so that a text that ends comes ahead
// of one that goes on, and a list of tags that ends ahead of one with a further tag.
const (
	textEnd = 0
	nameEnd = 1
	tagsEnd = 1
	tagHead = 2
)

const maxKeyForm = maxName + 1 + MaxTags*(2*maxName+3) + 1 + maxFixed

const crcPolynomial = 0x82F63B78

type Tag struct {
	Name  string
	Value string
}

type Key struct {
	Metric string
	Tags   []Tag
	Start  int
}

func PutVar(n uint64) []byte {
	var room [maxVar]byte
	many := 0
	for n > 127 {
		room[many] = byte(n&127) | 128
		n >>= 7
		many++
	}
	room[many] = byte(n)
	many++
	return room[:many:many]
}

func ReadVar(b []byte, at int) (uint64, int, bool) {
	if at < 0 || at >= len(b) {
		return 0, 0, false
	}
	end := min(len(b), at+maxVar)
	var n uint64
	for i, c := range b[at:end:end] {
		if i == maxVar-1 && c > 1 {
			// Nine groups hold 63 bits: one bit alone is left for the tenth.
			return 0, 0, false
		}
		n |= uint64(c&127) << (7 * i)
		if c > 127 {
			continue
		}
		if c == 0 && i > 0 {
			// A last group without bits is more than the number needs.
			return 0, 0, false
		}
		return n, at + i + 1, true
	}
	return 0, 0, false
}

func PutFixed(n int, many int) ([]byte, bool) {
	if n < 0 || many < 1 || many > maxFixed || n>>(8*many) != 0 {
		return nil, false
	}
	var room [maxFixed]byte
	for i := range room {
		room[i] = byte(n >> (8 * (maxFixed - 1 - i)))
	}
	return room[maxFixed-many : maxFixed : maxFixed], true
}

func ReadFixed(b []byte, at int, many int) (int, bool) {
	// The place is held against what is left, as at+many may wrap round.
	if many < 1 || many > maxFixed || at < 0 || at > len(b)-many {
		return 0, false
	}
	var n uint64
	for _, c := range b[at : at+many : at+many] {
		n = n<<8 | uint64(c)
	}
	if n > math.MaxInt {
		return 0, false
	}
	return int(n), true
}

func Crc32c(b []byte) uint32 {
	sum := ^uint32(0)
	for _, c := range b {
		sum ^= uint32(c)
		for range 8 {
			low := sum & 1
			sum >>= 1
			if low == 1 {
				sum ^= crcPolynomial
			}
		}
	}
	return ^sum
}

func GoodKey(k Key) bool {
	return isName(k.Metric) && goodTags(k.Tags) && k.Start >= 0 && k.Start <= MaxStart
}

func goodTags(tags []Tag) bool {
	if len(tags) > MaxTags {
		return false
	}
	for i, t := range tags {
		if !isName(t.Name) || !isName(t.Value) {
			return false
		}
		if i > 0 && tags[i-1].Name >= t.Name {
			return false
		}
	}
	return true
}

func isName(s string) bool {
	if len(s) < 1 || len(s) > maxName {
		return false
	}
	for i := range len(s) {
		if !isLetter(s[i]) {
			return false
		}
	}
	return true
}

func isLetter(c byte) bool {
	return c >= 'a' && c <= 'z' || c >= 'A' && c <= 'Z'
}

func KeyBytes(k Key) ([]byte, bool) {
	if !GoodKey(k) {
		return nil, false
	}
	start, ok := PutFixed(k.Start, maxFixed)
	if !ok {
		return nil, false
	}
	var room [maxKeyForm]byte
	out := append(room[:0:maxKeyForm], k.Metric...)
	out = append(out, textEnd)
	for _, t := range k.Tags {
		out = append(out, tagHead)
		out = append(out, t.Name...)
		out = append(out, nameEnd)
		out = append(out, t.Value...)
		out = append(out, textEnd)
	}
	out = append(out, tagsEnd)
	out = append(out, start...)
	return out[:len(out):len(out)], true
}

func ReadKey(b []byte) (Key, bool) {
	if len(b) > maxKeyForm {
		return Key{}, false
	}
	metric, at, ok := readUpTo(b, 0, textEnd)
	if !ok {
		return Key{}, false
	}
	tags, at, ok := readTags(b, at)
	if !ok || at != len(b)-maxFixed {
		return Key{}, false
	}
	start, ok := ReadFixed(b, at, maxFixed)
	k := Key{Metric: metric, Tags: tags, Start: start}
	if !ok || !GoodKey(k) {
		return Key{}, false
	}
	return k, true
}

// readTags and readUpTo find the parts alone; that they are names which rise
// is asked of the whole key by GoodKey.
func readTags(b []byte, at int) ([]Tag, int, bool) {
	var tags []Tag
	for at < len(b) && b[at] == tagHead {
		name, behind, ok := readUpTo(b, at+1, nameEnd)
		if !ok {
			return nil, 0, false
		}
		value, behind, ok := readUpTo(b, behind, textEnd)
		if !ok {
			return nil, 0, false
		}
		tags = append(tags, Tag{Name: name, Value: value})
		at = behind
	}
	if at >= len(b) || b[at] != tagsEnd {
		return nil, 0, false
	}
	return tags, at + 1, true
}

func readUpTo(b []byte, at int, end byte) (string, int, bool) {
	many := slices.Index(b[at:], end)
	if many < 0 {
		return "", 0, false
	}
	return string(b[at : at+many]), at + many + 1, true
}

func CompareKeys(a Key, b Key) int {
	if !GoodKey(a) || !GoodKey(b) {
		return 0
	}
	return cmp.Or(
		cmp.Compare(a.Metric, b.Metric),
		slices.CompareFunc(a.Tags, b.Tags, compareTags),
		cmp.Compare(a.Start, b.Start),
	)
}

func compareTags(a Tag, b Tag) int {
	return cmp.Or(cmp.Compare(a.Name, b.Name), cmp.Compare(a.Value, b.Value))
}
