package tests

import (
	"fmt"
	"slices"
	"strconv"
	"strings"
	"testing"

	"loop.example/g00150/impl"
)

type answered struct {
	line   string
	answer string
}

// checkLines holds a script to answers that are written out, and to the plain engine.
func checkLines(t *testing.T, what string, l ...answered) {
	t.Helper()
	var lines, answers []string
	for _, a := range l {
		lines, answers = append(lines, a.line), append(answers, a.answer)
	}
	text, want := textOf(lines), textOf(answers)
	checkAnswers(t, what+": RunWindows", lines, impl.RunWindows(text), want)
	if !slices.Contains(answers, "full") {
		checkAnswers(t, what+": ModelWindows", lines, impl.ModelWindows(text), want)
	}
	checkScript(t, what, lines)
}

func TestPromise12EventsIntoTheirWindows(t *testing.T) {
	checkLines(t, "the first and the last time of a window",
		answered{"event cpu@10 1", "ok"},
		answered{"event cpu@19 2", "ok"},
		answered{"event cpu@20 4", "ok"},
		answered{"event cpu@9 8", "ok"},
		answered{"event cpu@0 16", "ok"},
		answered{"query cpu@0", "have n=2 s=24 lo=8 hi=16"},
		answered{"query cpu@10", "have n=2 s=3 lo=1 hi=2"},
		answered{"query cpu@20", "have n=1 s=4 lo=4 hi=4"},
		answered{"query cpu@30", "none"},
		answered{"query cpu@19", "none"},
		answered{"query cpu@9", "none"},
		answered{"query cpu,h=a@10", "none"},
		answered{"query cp@10", "none"},
		answered{"query CPU@10", "none"},
		answered{"all", "all 3"},
	)
	checkLines(t, "tags",
		answered{"event cpu,h=a@13 5", "ok"},
		answered{"event cpu@13 6", "ok"},
		answered{"event cpu,h=b@13 7", "ok"},
		answered{"event cpu,h=a,i=b@13 8", "ok"},
		answered{"query cpu,h=a@10", "have n=1 s=5 lo=5 hi=5"},
		answered{"query cpu@10", "have n=1 s=6 lo=6 hi=6"},
		answered{"query cpu,h=b@10", "have n=1 s=7 lo=7 hi=7"},
		answered{"query cpu,h=a,i=b@10", "have n=1 s=8 lo=8 hi=8"},
		answered{"tell", "told cpu@10#1 cpu,h=a@10#1 cpu,h=a,i=b@10#1 cpu,h=b@10#1"},
		answered{"all", "all 8"},
	)
}

func TestPromise12GreatTimes(t *testing.T) {
	checkLines(t, "the greatest time",
		answered{"event cpu@1000000000 1", "ok"},
		answered{"event cpu@999999999 2", "ok"},
		answered{"event cpu@1000000001 3", "what"},
		answered{"event cpu@9999999999 3", "what"},
		answered{"event cpu@10000000000 3", "what"},
		answered{"query cpu@1000000000", "have n=1 s=1 lo=1 hi=1"},
		answered{"query cpu@999999990", "have n=1 s=2 lo=2 hi=2"},
		answered{"mark 1000000000", "ok"},
		answered{"event cpu@1000000000 1", "ok"},
		answered{"event cpu@999999950 1", "ok"},
		answered{"event cpu@999999949 1", "late"},
		answered{"tell", "told cpu@999999950#1 cpu@999999990#1 cpu@1000000000#1"},
	)
}

func TestPromise12LateEvents(t *testing.T) {
	checkLines(t, "late",
		answered{"event cpu@0 1", "ok"},
		answered{"mark 50", "ok"},
		answered{"event cpu@0 2", "ok"},
		answered{"mark 51", "ok"},
		answered{"event cpu@0 4", "late"},
		answered{"event cpu@1 8", "ok"},
		answered{"mark 59", "ok"},
		answered{"event cpu@8 16", "late"},
		answered{"event cpu@9 32", "ok"},
		answered{"mark 60", "ok"},
		answered{"event cpu@9 64", "late"},
		answered{"event cpu@10 128", "ok"},
		answered{"query cpu@0", "have n=4 s=43 lo=1 hi=32"},
		answered{"query cpu@10", "have n=1 s=128 lo=128 hi=128"},
		answered{"event new@9 1", "late"},
		answered{"query new@0", "none"},
		answered{"tell", "told cpu@0#1 cpu@10#1"},
		answered{"event cpu@9 1", "late"},
		answered{"tell", "told"},
		answered{"version cpu@0", "version 1"},
		answered{"event cpu@9 1000000001", "what"},
		answered{"event cpu@9 -0", "what"},
	)
}

func TestPromise12Values(t *testing.T) {
	checkLines(t, "values",
		answered{"event a@0 1000000000", "ok"},
		answered{"event a@0 1000000001", "what"},
		answered{"event a@0 -1000000000", "ok"},
		answered{"event a@0 -1000000001", "what"},
		answered{"query a@0", "have n=2 s=0 lo=-1000000000 hi=1000000000"},
		answered{"event b@0 0", "ok"},
		answered{"event b@0 -1", "ok"},
		answered{"event b@0 9", "ok"},
		answered{"query b@0", "have n=3 s=8 lo=-1 hi=9"},
		answered{"event b@0 -0", "what"},
		answered{"event b@0 +1", "what"},
		answered{"event b@0 +0", "what"},
		answered{"event b@0 01", "what"},
		answered{"event b@0 00", "what"},
		answered{"event b@0 -01", "what"},
		answered{"event b@0 --1", "what"},
		answered{"event b@0 -", "what"},
		answered{"event b@0 1-", "what"},
		answered{"event b@0 ", "what"},
		answered{"event b@0", "what"},
		answered{"event b@0 1.0", "what"},
		answered{"event b@0 1e2", "what"},
		answered{"event b@0 0x1", "what"},
		answered{"event b@0 1_0", "what"},
		answered{"event b@0 9999999999", "what"},
		answered{"event b@0 -9999999999", "what"},
		answered{"event b@0 10000000000", "what"},
		answered{"event b@0 -10000000000", "what"},
		answered{"event b@0 0000000001", "what"},
		answered{"event b@0 00000000001", "what"},
		answered{"event b@0 18446744073709551617", "what"},
		answered{"event b@0 " + strings.Repeat("9", 900), "what"},
		answered{"event b@0 １", "what"},
		answered{"event b@0 \xff", "what"},
		answered{"event b@0 −1", "what"},
		answered{"event b@0 x", "what"},
		answered{"event b@0 1 1", "what"},
		answered{"query b@0", "have n=3 s=8 lo=-1 hi=9"},
		answered{"all", "all 2"},
	)
}

func TestPromise12Marks(t *testing.T) {
	checkLines(t, "marks",
		answered{"mark 0", "ok"},
		answered{"mark 60", "ok"},
		answered{"mark 60", "ok"},
		answered{"mark 59", "no"},
		answered{"mark 0", "no"},
		answered{"event a@9 1", "late"},
		answered{"event a@10 1", "ok"},
		answered{"mark 61", "ok"},
		answered{"event a@10 1", "late"},
		answered{"mark 1000000001", "no"},
		answered{"mark 9999999999", "no"},
		answered{"event a@11 1", "ok"},
		answered{"mark 10000000000", "what"},
		answered{"mark 00000000070", "what"},
		answered{"mark -1", "what"},
		answered{"mark -0", "what"},
		answered{"mark +70", "what"},
		answered{"mark 070", "what"},
		answered{"mark 00", "what"},
		answered{"mark x", "what"},
		answered{"mark 7x", "what"},
		answered{"mark ", "what"},
		answered{"mark", "what"},
		answered{"mark 70 ", "what"},
		answered{"mark  70", "what"},
		answered{"mark 70 70", "what"},
		answered{"mark ７０", "what"},
		answered{"mark 7\xff", "what"},
		answered{"event a@11 1", "ok"},
		answered{"mark 1000000000", "ok"},
		answered{"mark 1000000000", "ok"},
		answered{"mark 1000000001", "no"},
		answered{"mark 999999999", "no"},
		answered{"event a@999999949 1", "late"},
		answered{"event a@999999950 1", "ok"},
	)
}

func TestPromise12Tellings(t *testing.T) {
	checkLines(t, "tellings",
		answered{"tell", "told"},
		answered{"event b@13 5", "ok"},
		answered{"version b@10", "version 0"},
		answered{"tell", "told b@10#1"},
		answered{"version b@10", "version 1"},
		answered{"tell", "told"},
		answered{"version b@10", "version 1"},
		answered{"event b@10 1", "ok"},
		answered{"event b@19 1", "ok"},
		answered{"event a@10 1", "ok"},
		answered{"event b@5 1", "ok"},
		answered{"version b@10", "version 1"},
		answered{"tell", "told a@10#1 b@0#1 b@10#2"},
		answered{"version b@10", "version 2"},
		answered{"version a@10", "version 1"},
		answered{"version a@0", "version 0"},
		answered{"version a,h=a@10", "version 0"},
		answered{"event a@10 1", "ok"},
		answered{"tell", "told a@10#2"},
		answered{"event a@10 1", "ok"},
		answered{"tell", "told a@10#3"},
		answered{"tell ", "what"},
		answered{"tell it", "what"},
		answered{"query a@10", "have n=3 s=3 lo=1 hi=1"},
		answered{"query b@10", "have n=3 s=7 lo=1 hi=5"},
		answered{"all", "all 6"},
	)
}

// The order of what is told is that of keys: not of their texts, nor of time.
func TestPromise12ToldInTheOrderOfKeys(t *testing.T) {
	checkLines(t, "an order",
		answered{"event b@100 1", "ok"},
		answered{"event b@20 1", "ok"},
		answered{"event b@3 1", "ok"},
		answered{"event ba@0 1", "ok"},
		answered{"event b,h=a@0 1", "ok"},
		answered{"event b,h=a,i=a@0 1", "ok"},
		answered{"event b,ha=a@0 1", "ok"},
		answered{"event b,h=aa@0 1", "ok"},
		answered{"event B@1000 1", "ok"},
		answered{"event bA@0 1", "ok"},
		answered{"tell", "told B@1000#1 b@0#1 b@20#1 b@100#1 b,h=a@0#1 b,h=a,i=a@0#1 b,h=aa@0#1 b,ha=a@0#1 bA@0#1 ba@0#1"},
	)
}

func TestPromise12ManyWindowsTold(t *testing.T) {
	for _, many := range []int{1, 2, 9, 10, 11, 19, 20, 21, 29, 30, 31, 40, 41, 50, 57} {
		var l []answered
		want := "told"
		for i := range many {
			l = append(l, answered{fmt.Sprintf("event a@%d %d", 10*i+i%10, i), "ok"})
			want += fmt.Sprintf(" a@%d#1", 10*i)
		}
		l = append(l, answered{"tell", want}, answered{"tell", "told"}, answered{"all", "all " + strconv.Itoa(2*many)})
		checkLines(t, fmt.Sprintf("%d windows", many), l...)
	}
	var l []answered
	for version := 1; version <= 4; version++ {
		want := "told"
		for i := range 12 {
			l = append(l, answered{fmt.Sprintf("event a@%d %d", 10*i, i), "ok"})
			want += fmt.Sprintf(" a@%d#%d", 10*i, version)
		}
		l = append(l, answered{"tell", want})
	}
	checkLines(t, "again and again", append(l, answered{"version a@110", "version 4"}, answered{"all", "all 24"})...)
}

func TestPromise12QueriesOfNoKey(t *testing.T) {
	var l []answered
	for _, word := range []string{"query", "version"} {
		for _, rest := range []string{"", " ", " a", " a@", " @0", " a@00", " a@-1", " a@+1", " a@1000000001", " a@12345678901", " a,b@0", " a,b=@0", " a,b=c,a=c@0", " a@0 ", "  a@0", " a@0 a@0", " é@0", " a@0@0"} {
			l = append(l, answered{word + rest, "what"})
		}
	}
	l = append(l, answered{"query a@0", "none"}, answered{"version a@0", "version 0"}, answered{"query a@1000000000", "none"}, answered{"version a@1000000000", "version 0"}, answered{"version a@7", "version 0"})
	checkLines(t, "no keys", l...)
}

func TestPromise12AnythingElse(t *testing.T) {
	lines := []string{
		"", " ", "  ", "\t", "\r", "\x00", "\xff", "é", "what", "fly", "ok",
		"Event a@0 1", "EVENT a@0 1", "events a@0 1", "even a@0 1", "event", "event ", "event a@0", "event 1 a@0", "event a@0 1 ",
		" event a@0 1", "event  a@0 1", "event a@0  1", "event\ta@0 1", "event a@0\t1", "event a@0 1\r", "event a @0 1", "event a@0\u00a01", "event\u00a0a@0 1",
		"évent a@0 1", "event é@0 1", "event a@0 é", "event a@0 1é", "event a@0 1\xff", "\xffevent a@0 1", "event\xff a@0 1", "event \xffa@0 1",
		"marks 1", "tells", "tell tell", "tell\x00", "telL", "spills", "spill 0", "spill ", " spill", "spíll",
	}
	for _, part := range [][]string{lines, {
		"pack", "pack ", "pack 2", "pack 3", "pack 00", "pack 01", "pack -0", "pack -1", "pack +1", "pack 10", "pack 0 ", "pack  0", " pack 0", "pack 0 1", "pack x", "pack 99999999999", "pack \xff", "pack ０", "pack0", "packs 0",
		"open 1", "open ", " open", "opens", "op\xe9n", "all ", " all", "all 1", "alls", "al", "All",
		"query", "version", "queries a@0", "queryéa@0", "#", "done", "none",
	}} {
		var l []answered
		for _, line := range append(part, "all") {
			l = append(l, answered{line, "what"})
		}
		l[len(l)-1].answer = "all 0"
		checkLines(t, "anything else", l...)
	}
}

// A blank, or any other byte, at any place of each command makes it another one.
func TestPromise12LinesNearACommand(t *testing.T) {
	head := []string{"event ab@17 5", "event ab,h=a@27 5", "tell", "event ab@17 4", "mark 60"}
	for _, line := range []string{"event ab,h=a@13 -12", "mark 1070", "tell", "query ab@10", "version ab,h=a@20", "spill", "pack 0", "pack 1", "open", "all"} {
		var near []string
		for at := range len(line) + 1 {
			for _, b := range []string{" ", "\t", "\x00", "0", "1", "-", "a", "é", "\xff", ",", "@", "=", "+"} {
				near = append(near, line[:at]+b+line[at:])
			}
			if at < len(line) {
				near = append(near, line[:at]+line[at+1:], line[:at]+" "+line[at+1:], line[:at]+"\xff"+line[at+1:], line[:at]+"0"+line[at+1:])
			}
		}
		room := impl.MaxLines - len(head) - 1
		for chunk := range slices.Chunk(near, room) {
			checkScript(t, "near "+line, slices.Concat(head, chunk, []string{"all"}))
		}
	}
}

func TestPromise12ScriptsAndTheirLimits(t *testing.T) {
	long := func(many int) string { return strings.Repeat("x", many-1) + "\n" }
	for _, c := range []struct {
		what string
		text string
		want string
	}{
		{"the empty script", "", ""},
		{"an empty line", "\n", "what\n"},
		{"one line", "all\n", "all 0\n"},
		{"a line of MaxScript bytes", long(impl.MaxScript), "what\n"},
		{"MaxScript bytes in two lines", "all\n" + long(impl.MaxScript-4), "all 0\nwhat\n"},
		{"MaxLines lines", strings.Repeat("all\n", impl.MaxLines), strings.Repeat("all 0\n", impl.MaxLines)},
		{"MaxLines empty lines", strings.Repeat("\n", impl.MaxLines), strings.Repeat("what\n", impl.MaxLines)},
		{"MaxLines lines of MaxScript bytes", strings.Repeat(long(impl.MaxScript/impl.MaxLines), impl.MaxLines), strings.Repeat("what\n", impl.MaxLines)},
		{"two empty lines behind", "all\n\n\n", "all 0\nwhat\nwhat\n"},
		{"an empty line ahead", "\nall\n", "what\nall 0\n"},
		{"a byte 13 behind", "all\r\nall\n", "what\nall 0\n"},
	} {
		if got := impl.RunWindows(c.text); got != c.want {
			t.Errorf("%s: RunWindows = %.200q, want %.200q", c.what, got, c.want)
		}
		if got := impl.ModelWindows(c.text); got != c.want {
			t.Errorf("%s: ModelWindows = %.200q, want %.200q", c.what, got, c.want)
		}
		checkStore(t, c.what, c.text, newStore(t, impl.MaxQuota))
	}
}

func TestPromise12NoScripts(t *testing.T) {
	for _, c := range []struct {
		what string
		text string
	}{
		{"no byte 10", "all"},
		{"no byte 10 at the end", "all\nall"},
		{"a blank behind the end", "all\n "},
		{"a byte 0 behind the end", "all\n\x00"},
		{"a byte 13 behind the end", "all\n\r"},
		{"MaxScript bytes without a byte 10 at the end", "all\n" + strings.Repeat("x", impl.MaxScript-4)},
		{"one byte more", strings.Repeat("x", impl.MaxScript) + "\n"},
		{"one byte more in many lines", strings.Repeat("event a@0 1\n", 50) + strings.Repeat("x", impl.MaxScript-600) + "\n"},
		{"one line more", strings.Repeat("all\n", impl.MaxLines+1)},
		{"one empty line more", strings.Repeat("\n", impl.MaxLines+1)},
		{"one line more, without its end", strings.Repeat("all\n", impl.MaxLines) + "all"},
		{"far too long", strings.Repeat("event a@0 1\n", 100000)},
		{"far too long a line", strings.Repeat("event ", 100000)},
		{"far too many bytes", strings.Repeat("\xff", 1000000) + "\n"},
	} {
		checkNoScript(t, c.what, c.text)
	}
}

func checkNoScript(t *testing.T, what string, text string) {
	t.Helper()
	if got := impl.RunWindows(text); got != "" {
		t.Errorf("%s: RunWindows = %.200q, want nothing", what, got)
	}
	if got := impl.ModelWindows(text); got != "" {
		t.Errorf("%s: ModelWindows = %.200q, want nothing", what, got)
	}
	if s, ok := impl.StoreOfText(text); ok || !sameStore(s, impl.Store{}) {
		t.Errorf("%s: StoreOfText = %v, %v, want zero and false", what, s, ok)
	}
}
