package script_test

import (
	"math"
	"slices"
	"strconv"
	"strings"
	"testing"

	"varve/api"
	"varve/script"
)

// The bounds of P20.1, as the chapter's words tell them.
const (
	lastWorker = 15
	lastStep   = 1048576
	lastOp     = 65536
	lastEvent  = 4096
	lastByte   = 65536
	least      = math.MinInt32
	most       = math.MaxInt32
)

var (
	text80 = strings.Repeat("t", 80)
	text81 = strings.Repeat("t", 81)
)

// Events, as the chapter's table has their lines.
func call(w int, c api.Call) api.Event { return api.Event{Kind: api.EvCall, W: w, Call: c} }

func begin(w, mode int) api.Event { return call(w, api.Call{Kind: api.CBegin, Mode: mode}) }

func get(w int, key string) api.Event { return call(w, api.Call{Kind: api.CGet, Key: key}) }

func scan(w int, key, high string) api.Event {
	return call(w, api.Call{Kind: api.CScan, Key: key, High: high})
}

func insert(w int, key, val string, draw int) api.Event {
	return call(w, api.Call{Kind: api.CInsert, Key: key, Val: val, Draw: draw})
}

func update(w int, key, val string) api.Event {
	return call(w, api.Call{Kind: api.CUpdate, Key: key, Val: val})
}

func remove(w int, key string) api.Event { return call(w, api.Call{Kind: api.CDelete, Key: key}) }

func merge(w, n int) api.Event { return call(w, api.Call{Kind: api.CMerge, N: n}) }

// of is a call that has nothing but its Kind.
func of(w, kind int) api.Event { return call(w, api.Call{Kind: kind}) }

func step(w, n int) api.Event { return api.Event{Kind: api.EvStep, W: w, N: n} }

func run(w int) api.Event { return api.Event{Kind: api.EvRun, W: w} }

func crash(n, tear int) api.Event { return api.Event{Kind: api.EvCrash, N: n, Tear: tear} }

func cut(n int) api.Event { return api.Event{Kind: api.EvCut, N: n} }

func times(n int, e api.Event) []api.Event { return slices.Repeat([]api.Event{e}, n) }

func shows(t *testing.T, want string, l ...api.Event) {
	t.Helper()
	if got, e := script.Show(l); got != want || e != api.OK {
		t.Errorf("Show(%v): %q %v, not %q", l, got, e, want)
	}
}

func parses(t *testing.T, text string, want ...api.Event) {
	t.Helper()
	if l, at, e := script.Parse(text); !slices.Equal(l, want) || at != 0 || e != api.OK {
		t.Errorf("Parse(%q): %v %d %v, not %v", text, l, at, e, want)
	}
}

func refuses(t *testing.T, text string, at int, want api.Errno) {
	t.Helper()
	if l, got, e := script.Parse(text); l != nil || got != at || e != want {
		t.Errorf("Parse(%q): %v %d %v, not %d %v", text, l, got, e, at, want)
	}
}

// isNone: a line that is none, and none wherever it stands.
func isNone(t *testing.T, line string) {
	t.Helper()
	refuses(t, line, 1, api.ErrScriptLine)
	refuses(t, "\n; nothing\nrun 1\n"+line+"\nrun 77\n", 4, api.ErrScriptLine)
}

func isRight(t *testing.T, l ...api.Event) {
	t.Helper()
	if !script.Right(l) {
		t.Errorf("%v: not right", l)
	}
}

func isWrong(t *testing.T, l ...api.Event) {
	t.Helper()
	if script.Right(l) {
		t.Errorf("%v: right", l)
	}
	if text, e := script.Show(l); text != "" || e != api.ErrScriptForm {
		t.Errorf("Show(%v): %q %v", l, text, e)
	}
}

func replies(t *testing.T, kind int, r api.Reply, want string) {
	t.Helper()
	c := api.Call{Kind: kind, Mode: 7, Key: "key", High: "high", Val: "val", Draw: 8, N: 9}
	for _, c := range []api.Call{{Kind: kind}, c} {
		if got := script.Reply(c, r); got != want {
			t.Errorf("Reply(%v, %v): %q, not %q", c, r, got, want)
		}
	}
}

// The chapter's tables.
func TestExamples(t *testing.T) {
	shows(t, "3 insert \"a\\x00\" \"\" 2\n", insert(3, "a\x00", "", 2))
	shows(t, "0 scan \"\" \"z\"\n0 begin 1\n", scan(0, "", "z"), begin(0, api.Optimistic))
	shows(t, "step 2 100\ncrash 5 1\ncut 7\n", step(2, 100), crash(5, 1), cut(7))

	parses(t, "; x\n\n  run   1", run(1))
	for text, at := range map[string]int{"run 16": 1, "run 01": 1, "\n0 get a": 2, `0 get "a" "b"`: 1, `0 get "\x4"`: 1, "crash -1 0": 1, `0 get"a"`: 1} {
		refuses(t, text, at, api.ErrScriptLine)
	}
	replies(t, api.CGet, api.Reply{Found: true, Val: `q"`}, `"q\x22"`)
	replies(t, api.CGet, api.Reply{}, "none")
	replies(t, api.CCommit, api.Reply{Time: 7}, "7")
	replies(t, api.CGet, api.Reply{Code: 158}, "error 158")
}

// Under "Errors".
func TestErrorsNumbers(t *testing.T) {
	if api.ErrScriptForm != 200 || api.ErrScriptLine != 201 {
		t.Error("other numbers")
	}
}

// lines are one of each kind, and events with all that is named beyond 0, and at their bounds.
var lines = []struct {
	text  string
	event api.Event
}{
	{"3 begin 2", begin(3, api.Pessimistic)},
	{"0 begin 0", begin(0, 0)},
	{"0 begin -2147483648", begin(0, least)},
	{"15 begin 2147483647", begin(lastWorker, most)},
	{`1 get "k"`, get(1, "k")},
	{`0 get ""`, get(0, "")},
	{`0 get "` + text80 + `"`, get(0, text80)},
	{`15 scan "a" "b"`, scan(15, "a", "b")},
	{`0 scan "" ""`, scan(0, "", "")},
	{`0 scan "` + text80 + `" "` + text80 + `"`, scan(0, text80, text80)},
	{`10 insert "k" "v" 8`, insert(10, "k", "v", 8)},
	{`0 insert "" "" 0`, insert(0, "", "", 0)},
	{`9 insert "` + text80 + `" "" -2147483648`, insert(9, text80, "", least)},
	{`0 insert "" "` + text80 + `" 2147483647`, insert(0, "", text80, most)},
	{`5 update "k" "v"`, update(5, "k", "v")},
	{`0 update "` + text80 + `" "` + text80 + `"`, update(0, text80, text80)},
	{`6 delete "k"`, remove(6, "k")},
	{`0 delete "` + text80 + `"`, remove(0, text80)},
	{"7 commit", of(7, api.CCommit)},
	{"8 abort", of(8, api.CAbort)},
	{"9 checkpoint", of(9, api.CCheckpoint)},
	{"11 merge 4", merge(11, 4)},
	{"0 merge -2147483648", merge(0, least)},
	{"0 merge 2147483647", merge(0, most)},
	{"12 sweep", of(12, api.CSweep)},
	{"step 3 7", step(3, 7)},
	{"step 0 0", step(0, 0)},
	{"step 15 1048576", step(lastWorker, lastStep)},
	{"run 4", run(4)},
	{"run 0", run(0)},
	{"run 15", run(lastWorker)},
	{"crash 5 6", crash(5, 6)},
	{"crash 0 0", crash(0, 0)},
	{"crash 2147483647 0", crash(most, 0)},
	{"crash 0 2147483647", crash(0, most)},
	{"cut 8", cut(8)},
	{"cut 0", cut(0)},
	{"cut 65536", cut(lastOp)},
}

// P20.1, P20.2: each line and its event.
func TestLines(t *testing.T) {
	var text string
	var l []api.Event
	for _, x := range lines {
		isRight(t, x.event)
		shows(t, x.text+"\n", x.event)
		parses(t, x.text+"\n", x.event)
		parses(t, x.text, x.event)
		text += x.text + "\n"
		l = append(l, x.event)
	}
	isRight(t, l...)
	shows(t, text, l...)
	parses(t, text, l...)
}

// P20.1, P20.2: no events, no text.
func TestNothing(t *testing.T) {
	isRight(t)
	isRight(t, []api.Event{}...)
	shows(t, "")
	shows(t, "", []api.Event{}...)
	if l, at, e := script.Parse(""); l != nil || at != 0 || e != api.OK {
		t.Error(l, at, e)
	}
	for _, text := range []string{"\n", " ", "   \n\n  ", ";", "; run 1\n ;run 1\n  ; ;\n;\"", ";x \"unended", ";\x00\xff\n"} {
		parses(t, text)
	}
}

// P20.1: numbers and texts beyond their bounds.
func TestBounds(t *testing.T) {
	for _, x := range lines {
		for _, w := range []int{-1, lastWorker + 1, math.MinInt, math.MaxInt, 1 << 32} {
			if x.event.Kind <= api.EvRun {
				e := x.event
				e.W = w
				isWrong(t, e)
			}
		}
	}
	for _, n := range []int{least - 1, most + 1, math.MinInt, math.MaxInt} {
		isWrong(t, begin(0, n))
		isWrong(t, insert(0, "k", "v", n))
		isWrong(t, merge(0, n))
	}
	for _, n := range []int{-1, lastStep + 1, math.MinInt, math.MaxInt} {
		isWrong(t, step(0, n))
	}
	for _, n := range []int{-1, most + 1, math.MinInt, math.MaxInt} {
		isWrong(t, crash(n, 0))
		isWrong(t, crash(0, n))
	}
	for _, n := range []int{-1, lastOp + 1, math.MinInt, math.MaxInt} {
		isWrong(t, cut(n))
	}
	for _, text := range []string{text81, strings.Repeat("\x00", 81), strings.Repeat("long", 1<<18)} {
		isWrong(t, get(0, text))
		isWrong(t, scan(0, text, ""))
		isWrong(t, scan(0, "", text))
		isWrong(t, insert(0, text, "", 1))
		isWrong(t, insert(0, "", text, 1))
		isWrong(t, update(0, text, ""))
		isWrong(t, update(0, "", text))
		isWrong(t, remove(0, text))
	}
}

// named are an event's fields, by their names.
func named(e *api.Event) map[string]*int {
	return map[string]*int{"W": &e.W, "N": &e.N, "Tear": &e.Tear, "Mode": &e.Call.Mode, "Draw": &e.Call.Draw, "Call.N": &e.Call.N}
}

func namedTexts(e *api.Event) map[string]*string {
	return map[string]*string{"Key": &e.Call.Key, "High": &e.Call.High, "Val": &e.Call.Val}
}

// fields are those that are named of each kind of event.
var fields = []struct {
	event api.Event
	names string
}{
	{begin(0, 0), "W Mode"},
	{get(0, ""), "W Key"},
	{scan(0, "", ""), "W Key High"},
	{insert(0, "", "", 0), "W Key Val Draw"},
	{update(0, "", ""), "W Key Val"},
	{remove(0, ""), "W Key"},
	{of(0, api.CCommit), "W"},
	{of(0, api.CAbort), "W"},
	{of(0, api.CCheckpoint), "W"},
	{merge(0, 0), "W Call.N"},
	{of(0, api.CSweep), "W"},
	{step(0, 0), "W N"},
	{run(0), "W"},
	{crash(0, 0), "N Tear"},
	{cut(0), "N"},
}

// P20.1: a field that is not named is zero.
func TestNotNamed(t *testing.T) {
	holds := func(e api.Event, is bool) {
		t.Helper()
		if is {
			isRight(t, e)
		} else {
			isWrong(t, e)
		}
	}
	for _, x := range fields {
		names := strings.Fields(x.names)
		isRight(t, x.event)
		e := x.event
		for name, n := range named(&e) {
			for _, *n = range []int{1, 15} {
				holds(e, slices.Contains(names, name))
			}
			*n = -1
			holds(e, slices.Contains(names, name) && (name == "Mode" || name == "Draw" || name == "Call.N"))
			*n = 0
		}
		for name, text := range namedTexts(&e) {
			for _, *text = range []string{"x", "\x00", text80} {
				holds(e, slices.Contains(names, name))
			}
			*text = ""
		}
		if x.event.Kind != api.EvCall {
			for kind := -1; kind <= 12; kind++ {
				e.Call.Kind = kind
				holds(e, kind == 0)
			}
		}
	}
}

// P20.1: a Kind that is none.
func TestKinds(t *testing.T) {
	for _, kind := range []int{math.MinInt, -1, 0, 6, 9, 1 << 32, math.MaxInt} {
		isWrong(t, api.Event{Kind: kind})
	}
	for _, kind := range []int{math.MinInt, -1, 0, 12, 13, 1 << 32, math.MaxInt} {
		isWrong(t, of(0, kind))
	}
	for kind := api.CBegin; kind <= api.CSweep; kind++ {
		isRight(t, of(0, kind))
	}
	for kind := api.EvCall + 1; kind <= api.EvCut; kind++ {
		isRight(t, api.Event{Kind: kind})
	}
}

// P20.1: one wrong event is enough, and events may be too many.
func TestManyEvents(t *testing.T) {
	isRight(t, times(lastEvent, run(1))...)
	isWrong(t, times(lastEvent+1, run(1))...)
	isWrong(t, times(100000, run(1))...)
	for _, at := range []int{0, 1, 2000, lastEvent - 1} {
		l := times(lastEvent, run(1))
		l[at].W = 16
		isWrong(t, l...)
	}
	shows(t, strings.Repeat("run 1\n", lastEvent), times(lastEvent, run(1))...)
}

// P20.1: each byte, itself where that may be.
func TestBytes(t *testing.T) {
	for c := range 256 {
		want := `\x` + strconv.FormatInt(int64(256+c), 16)[1:]
		if c >= 0x20 && c <= 0x7e && c != '"' && c != '\\' {
			want = string(rune(c))
		}
		text := string([]byte{byte(c)})
		shows(t, `0 get "`+want+"\"\n", get(0, text))
		shows(t, `0 insert "a`+want+`b" "`+want+want+"\" 1\n", insert(0, "a"+text+"b", text+text, 1))
		parses(t, `0 get "`+want+`"`, get(0, text))
		replies(t, api.CGet, api.Reply{Found: true, Val: "a" + text}, `"a`+want+`"`)
		if len(want) == 1 {
			parses(t, `0 get "\x`+strconv.FormatInt(int64(c), 16)+`"`, get(0, text))
		} else if c != '"' && c != '\n' {
			isNone(t, `0 get "`+text+`"`)
		}
	}
	shows(t, "0 get \"\\xc3\\xa4\\xff\\x0a\"\n", get(0, "ä\xff\n"))
	isNone(t, `0 get "ä"`)
}

// wide are events whose text has 65536 bytes and n more.
func wide(n int) []api.Event {
	return append(times(374, update(0, text80, text80)), get(0, text80[:77+n]))
}

// P20.1: the text that would be too long.
func TestLongText(t *testing.T) {
	for n, want := range map[int]api.Errno{-1: api.OK, 0: api.OK, 1: api.ErrScriptForm, 3: api.ErrScriptForm} {
		l := wide(n)
		isRight(t, l...)
		text, e := script.Show(l)
		if e != want || e == api.OK && len(text) != lastByte+n || e != api.OK && text != "" {
			t.Error(n, len(text), e)
		}
	}
	l := times(lastEvent, update(0, strings.Repeat("\x00", 80), strings.Repeat("\xff", 80)))
	isRight(t, l...)
	if text, e := script.Show(l); text != "" || e != api.ErrScriptForm {
		t.Error(len(text), e)
	}
}

// P20.2: ErrScriptForm, whatever the text's lines are.
func TestParseLong(t *testing.T) {
	text, _ := script.Show(wide(0))
	parses(t, text, wide(0)...)
	refuses(t, text+"\n", 0, api.ErrScriptForm)
	parses(t, "run 1\n"+strings.Repeat(" ", lastByte-6), run(1))
	refuses(t, "none\n"+strings.Repeat(" ", lastByte-4), 0, api.ErrScriptForm)
	refuses(t, "none\n"+strings.Repeat(" ", lastByte-5), 1, api.ErrScriptLine)
	parses(t, strings.Repeat("\n", lastByte-5)+"run 1", run(1))
	refuses(t, strings.Repeat("\n", lastByte-5)+"run x", lastByte-4, api.ErrScriptLine)
	refuses(t, strings.Repeat("\n", lastByte+1), 0, api.ErrScriptForm)
}

// P20.2: the 4097th line that says something.
func TestParseMany(t *testing.T) {
	text := strings.Repeat("run 1\n", lastEvent)
	parses(t, text, times(lastEvent, run(1))...)
	parses(t, text+"\n ;\n", times(lastEvent, run(1))...)
	refuses(t, text+"run 2", lastEvent+1, api.ErrScriptLine)
	refuses(t, ";\n"+text+"\n;\n run 2\n", lastEvent+4, api.ErrScriptLine)
	refuses(t, text+"none", lastEvent+1, api.ErrScriptLine)
	refuses(t, strings.Repeat("run 1\n", lastEvent-1)+"none\nrun 1\nrun 1\n", lastEvent, api.ErrScriptLine)
	refuses(t, strings.Repeat("run 1\n", 5000), lastEvent+1, api.ErrScriptLine)
}

// P20.2: what parts lines and words.
func TestBlanks(t *testing.T) {
	parses(t, "run 1\nrun 2\n\n\nrun 3\n", run(1), run(2), run(3))
	parses(t, "   15   insert  \" a  b \"   \" \"     3  ", insert(15, " a  b ", " ", 3))
	parses(t, "  crash  1    2   \n   cut 3", crash(1, 2), cut(3))
	parses(t, ";run 1\nrun 2\n ; run 3\n;;\n   ;\n;\"\nrun 4", run(2), run(4))
	parses(t, `0 scan ";" "; x"`, scan(0, ";", "; x"))
	for _, line := range []string{"run\t1", "run 1\r", "\trun 1", "run 1\t", "run\v1", "run\u00a01", "run 1\u00a0", "\r", "\t", "\x00", "\t; x", "\u00a0", "run 1\x00", "\ufeffrun 1"} {
		isNone(t, line)
	}
	for _, line := range []string{"run 1;", "run 1 ;", "run 1 ; x", "run; 1", "x ;", `";`, `";"`, `"; x"`, "0 ; x", "0;"} {
		isNone(t, line)
	}
}

// P20.2: a quoted text ends a word, and begins none within another one.
func TestQuotesEndWords(t *testing.T) {
	parses(t, `0 scan "a""b"`, scan(0, "a", "b"))
	parses(t, `0 scan """"`, scan(0, "", ""))
	parses(t, `0 insert "a" "b c"7`, insert(0, "a", "b c", 7))
	for _, line := range []string{
		`0 get"a"`, `0get "a"`, `0 get""`, `0 insert "a" "b" 7"c"`, `0 insert "a" "b" 7""`, `0 get "a"b`, `0 get "a""`, `0 get "a"""`, `0 get ""a""`,
		`0 get "a" x`, `0 scan "a"b "c"`, `0 scan a" "b`, `"0" get "a"`, `"0"get "a"`, `0 "get" "a"`, `run "1"`, `"run" 1`, `"run"1`, `0 insert "a" "b" "7"`, `step 1 "2"`,
	} {
		isNone(t, line)
	}
}

// P20.2: words that are too few, too many, or none.
func TestWords(t *testing.T) {
	for _, x := range lines {
		words := strings.Split(x.text, " ")
		for i := range words {
			isNone(t, strings.Join(slices.Delete(slices.Clone(words), i, i+1), " ")+" ")
			for _, word := range []string{"0", "1", `""`, `"a"`, "x", "begin", "run", "crash", "-"} {
				isNone(t, strings.Join(slices.Insert(slices.Clone(words), i, word), " "))
			}
			isNone(t, strings.Join(slices.Insert(slices.Clone(words), i, words[i]), " "))
		}
		for _, word := range []string{"0", "1", `""`, `"a"`, "x", "begin", "run", ";", "; x", "-", `"`} {
			isNone(t, x.text+" "+word)
		}
		isNone(t, strings.ToUpper(x.text[:1])+strings.ToUpper(x.text[1:]))
	}
	for _, line := range []string{
		"x", "0", "-1", `""`, `"`, "run", "step", "crash", "cut", "begin", "begin 0", "begin 0 1", "begin begin 1", "run run", "cut cut", "step 1 run", "0 0 commit", "commit", "commit 0",
		"0 run", "0 run 1", "0 step 1", "0 crash 1", "0 cut", "1 crash 2", "1 step 2", "call 0 commit", "0 none", "0 Commit", "RUN 1", "0 commits", "0 commi", "0 begin1", "run1", "run.1", "0,commit",
		"worker 0 commit", "x commit", "- commit", "a begin 1", `0 get k`, `0 get`, `0 insert "k" "v"`, `0 insert "k" 1`, `0 update "k"`, `0 scan "k"`, "0 begin", "0 merge", "1 sweep 2", "0 checkpoint 1", "0 abort 0",
	} {
		isNone(t, line)
	}
}

// P20.2: numbers that are none, and those that no event of its kind may have.
func TestNumbers(t *testing.T) {
	nones := []string{"-0", "00", "01", "-01", "+1", "+0", "--1", "-", "1-", "1_0", "0x1", "0b1", "1e1", "1.0", ".1", "1.", "a", "1a", "a1", "²", "١", "１", "-٣", "\xff", "\x31\x00", "1,", "00000000001", "10000000000", "-10000000000", "99999999999999999999", "18446744073709551617", "-18446744073709551615", "4294967297000000000000000000000", strings.Repeat("1", 60000), strings.Repeat("0", 60000), "-" + strings.Repeat("9", 60000)}
	frames := []struct{ text, far string }{ // what stands for N, and numbers beyond its bounds
		{"N begin 1", "-1 16 4294967296 4294967297 9999999999 -9999999999"},
		{"N commit", "-1 16 -4294967295"},
		{"0 begin N", "2147483648 -2147483649 4294967297 9999999999 -9999999999"},
		{`0 insert "k" "v" N`, "2147483648 -2147483649 4294967297 9999999999 -9999999999"},
		{"0 merge N", "2147483648 -2147483649 4294967297 9999999999 -9999999999"},
		{"step N 1", "-1 16 17 4294967297"},
		{"step 1 N", "-1 -5 1048577 4294967297 9999999999 -9999999999"},
		{"run N", "-1 16 100 4294967297 -9999999999"},
		{"crash N 1", "-1 -2147483648 2147483648 4294967297 9999999999"},
		{"crash 1 N", "-1 -2147483648 2147483648 4294967297 9999999999"},
		{"cut N", "-1 65537 65538 4294967297 4295032832 9999999999"},
	}
	for _, x := range frames {
		for _, word := range append(strings.Fields(x.far), nones...) {
			refuses(t, "\n"+strings.ReplaceAll(x.text, "N", word), 2, api.ErrScriptLine)
		}
	}
	parses(t, "0 begin 1234567890\n1 begin -1234567890\n10 merge 100\nstep 9 1000000", begin(0, 1234567890), begin(1, -1234567890), merge(10, 100), step(9, 1000000))
	parses(t, "0 begin 2000000000\n0 begin -1\n0 begin 9", begin(0, 2000000000), begin(0, -1), begin(0, 9))
}

// P20.2: quoted texts that are none, or too long.
func TestQuoted(t *testing.T) {
	for _, word := range []string{
		``, `a`, `"`, `"a`, `a"`, `'a'`, "`a`", `"a\"`, `"\"`, `"\""`, `"\\"`, `"\n"`, `"\t"`, `"\0"`, `"\u0041"`, `"\x"`, `"\x4"`, `"\x4"1"`, `"\xg0"`, `"\x0g"`, `"\x4G"`, `"\xAB"`, `"\xaB"`, `"\xAb"`, `"\X41"`, `"\x 1"`, `"\x1 "`, `"\x-1"`, `"\x+1"`, `"x41\"`, `"\xx4"`, `"\\x41"`, `"a\`, `"\x41`,
		"\"\t\"", "\"\x00\"", "\"\x1f\"", "\"\x7f\"", "\"\x80\"", "\"\xff\"", `"é"`, `"` + "\r" + `"`, `“a”`, `"` + text81 + `"`, `"` + strings.Repeat(`\x00`, 81) + `"`, `"` + text80 + `\x00"`,
	} {
		for _, text := range []string{"0 get N", "0 delete N", `0 scan N "z"`, `0 scan "" N`, `0 insert N "v" 1`, `0 insert "k" N 1`, `0 update N "v"`, `0 update "k" N`} {
			isNone(t, strings.ReplaceAll(text, "N", word))
		}
	}
	parses(t, `0 get "`+strings.Repeat(`\x41`, 80)+`"`, get(0, strings.Repeat("A", 80)))
	parses(t, `0 get "\x20\x22\x5c\x7e\x7f\xab\xff"`, get(0, " \"\\~\x7f\xab\xff"))
	parses(t, `0 get "x41 x"`, get(0, "x41 x"))
	isNone(t, "0 get \"a\nb\"")
}

// P20.2: the first line that is none, whichever it is.
func TestFirstLine(t *testing.T) {
	refuses(t, "run 1\nx\ny", 2, api.ErrScriptLine)
	refuses(t, "\n\n\nrun 16\nx", 4, api.ErrScriptLine)
	refuses(t, "run 1\n; x\n\n  \nrun", 5, api.ErrScriptLine)
	refuses(t, "x\n"+strings.Repeat("run 1\n", 5000), 1, api.ErrScriptLine)
	refuses(t, "run 1\nrun 2\nrun 3 \nrun 4 x\n", 4, api.ErrScriptLine)
}

// P20.3: an error is told, whatever else the reply has, and whatever was asked.
func TestReplyErrors(t *testing.T) {
	full := api.Reply{Val: "v", Found: true, Rows: []api.Row{{Key: "k", Val: "v", Time: 3}}, Time: 5, N: 6}
	for _, kind := range []int{math.MinInt, -1, 0, 1, 2, 3, 4, 5, 6, 7, 8, 9, 10, 11, 12, math.MaxInt} {
		for code, want := range map[api.Errno]string{1: "error 1", 24: "error 24", 161: "error 161", 7777: "error 7777", -5: "error -5", math.MinInt: "error " + strconv.Itoa(math.MinInt), math.MaxInt: "error " + strconv.Itoa(math.MaxInt)} {
			r := full
			r.Code = code
			replies(t, kind, r, want)
			replies(t, kind, api.Reply{Code: code}, want)
		}
	}
}

// P20.3: replies without an error, of each Kind, of replies that have more than they should, too.
func TestReplies(t *testing.T) {
	full := api.Reply{Val: "v", Found: true, Rows: []api.Row{{Key: "k", Val: "w", Time: 3}}, Time: 5, N: 6}
	want := map[int]string{api.CGet: `"v"`, api.CScan: `"k" "w"`, api.CCommit: "5", api.CSweep: "6"}
	empty := map[int]string{api.CGet: "none", api.CScan: "none", api.CCommit: "0", api.CSweep: "0"}
	for _, kind := range []int{math.MinInt, -1, 0, 1, 2, 3, 4, 5, 6, 7, 8, 9, 10, 11, 12, 99, math.MaxInt} {
		if want[kind] == "" {
			want[kind], empty[kind] = "ok", "ok"
		}
		replies(t, kind, full, want[kind])
		replies(t, kind, api.Reply{}, empty[kind])
		replies(t, kind, api.Reply{Rows: []api.Row{}}, empty[kind])
	}
	replies(t, api.CGet, api.Reply{Found: true}, `""`)
	replies(t, api.CGet, api.Reply{Val: "v"}, "none")
	long := strings.Repeat("\xfe~", 40000)
	replies(t, api.CGet, api.Reply{Found: true, Val: long}, `"`+strings.Repeat(`\xfe~`, 40000)+`"`)
	rows := []api.Row{{Key: "a", Val: "", Time: 9}, {Key: "", Val: "b c"}, {Key: "\n", Val: `"\`}, {Key: "0", Val: "\xff", Time: -1}}
	replies(t, api.CScan, api.Reply{Rows: rows}, `"a" "" "" "b c" "\x0a" "\x22\x5c" "0" "\xff"`)
	replies(t, api.CScan, api.Reply{Rows: make([]api.Row, 5000), Found: true}, strings.Repeat(` ""`, 10000)[1:])
	for _, n := range []int64{0, -1, 1, 1 << 40, math.MinInt64, math.MaxInt64} {
		replies(t, api.CCommit, api.Reply{Time: n}, strconv.FormatInt(n, 10))
		replies(t, api.CSweep, api.Reply{N: int(n)}, strconv.FormatInt(n, 10))
	}
}

func wipe(l []api.Event) {
	for i := range l[:cap(l)] {
		l[:cap(l)][i] = crash(-7, -7)
	}
}

// R3: what is handed in is left as it is, and what is answered is new.
func TestMemory(t *testing.T) {
	kept := []api.Event{get(1, "a"), run(1), insert(2, "b", "\xff", 3), crash(1, 2), cut(3)}
	l := slices.Clone(kept)
	text, _ := script.Show(l[:3])
	if !script.Right(l[:3]) || !slices.Equal(l, kept) {
		t.Error("written into", l)
	}
	for range 2 {
		got, _, _ := script.Parse(text)
		other, _, _ := script.Parse(text)
		wipe(got)
		if !slices.Equal(other, kept[:3]) {
			t.Error("shared", other)
		}
	}
	rows := []api.Row{{Key: "a", Val: "b", Time: 1}, {Key: "c", Val: "\n", Time: 2}, {Key: "spare"}}
	was := slices.Clone(rows)
	if got := script.Reply(api.Call{Kind: api.CScan}, api.Reply{Rows: rows[:2]}); got != `"a" "b" "c" "\x0a"` || !slices.Equal(rows, was) {
		t.Error(got, rows)
	}
}
