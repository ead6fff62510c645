package script_test

import (
	"math/big"
	"math/rand"
	"regexp"
	"slices"
	"strconv"
	"strings"
	"testing"

	"varve/api"
	"varve/script"
)

// What a line is, told plainly: a pattern of all of it. Each small letter stands for a word: n a number, w one that is a worker, t a text.
var patterns = []struct {
	shape string
	make  func(n []int, t []string) api.Event
	most  []int // of the numbers behind the worker
	least []int
}{
	{"w begin n", func(n []int, t []string) api.Event { return begin(n[0], n[1]) }, []int{most}, []int{least}},
	{"w get t", func(n []int, t []string) api.Event { return get(n[0], t[0]) }, nil, nil},
	{"w scan t t", func(n []int, t []string) api.Event { return scan(n[0], t[0], t[1]) }, nil, nil},
	{"w insert t t n", func(n []int, t []string) api.Event { return insert(n[0], t[0], t[1], n[1]) }, []int{most}, []int{least}},
	{"w update t t", func(n []int, t []string) api.Event { return update(n[0], t[0], t[1]) }, nil, nil},
	{"w delete t", func(n []int, t []string) api.Event { return remove(n[0], t[0]) }, nil, nil},
	{"w commit", func(n []int, t []string) api.Event { return of(n[0], api.CCommit) }, nil, nil},
	{"w abort", func(n []int, t []string) api.Event { return of(n[0], api.CAbort) }, nil, nil},
	{"w checkpoint", func(n []int, t []string) api.Event { return of(n[0], api.CCheckpoint) }, nil, nil},
	{"w merge n", func(n []int, t []string) api.Event { return merge(n[0], n[1]) }, []int{most}, []int{least}},
	{"w sweep", func(n []int, t []string) api.Event { return of(n[0], api.CSweep) }, nil, nil},
	{"step w n", func(n []int, t []string) api.Event { return step(n[0], n[1]) }, []int{lastStep}, []int{0}},
	{"run w", func(n []int, t []string) api.Event { return run(n[0]) }, nil, nil},
	{"crash n n", func(n []int, t []string) api.Event { return crash(n[0], n[1]) }, []int{most, most}, []int{0, 0}},
	{"cut n", func(n []int, t []string) api.Event { return cut(n[0]) }, []int{lastOp}, []int{0}},
}

const (
	numberPattern = `(-?[1-9][0-9]{0,9}|0)`
	textPattern   = `("(?:[ !#-\[\]-~]|\\x[0-9a-f][0-9a-f])*")`
)

// patternOf is a shape's. Behind a text a blank may be missing, as it ends a word.
func patternOf(shape string) *regexp.Regexp {
	pattern, gap := "^ *", ""
	for _, word := range strings.Fields(shape) {
		pattern, gap = pattern+gap, " +"
		switch word {
		case "w", "n":
			pattern += numberPattern
		case "t":
			pattern, gap = pattern+textPattern, " *"
		default:
			pattern += word
		}
	}
	return regexp.MustCompile(pattern + " *$")
}

var (
	silent   = regexp.MustCompile("^ *(;[^\n]*)?$")
	escaped  = regexp.MustCompile(`\\x..`)
	compiled = func() []*regexp.Regexp {
		var l []*regexp.Regexp
		for _, p := range patterns {
			l = append(l, patternOf(p.shape))
		}
		return l
	}()
)

// plainEvent is a line's event.
func plainEvent(line string) (api.Event, bool) {
	for i, p := range patterns {
		found := compiled[i].FindStringSubmatch(line)
		if found == nil {
			continue
		}
		var numbers []int
		var texts []string
		for _, word := range found[1:] {
			if word[0] == '"' {
				text := escaped.ReplaceAllStringFunc(word[1:len(word)-1], func(s string) string {
					c, _ := strconv.ParseUint(s[2:], 16, 8)
					return string([]byte{byte(c)})
				})
				texts = append(texts, text)
				continue
			}
			n, _ := new(big.Int).SetString(word, 10)
			numbers = append(numbers, int(n.Int64()))
		}
		lows, highs := p.least, p.most
		if strings.Contains(p.shape, "w") {
			lows, highs = append([]int{0}, lows...), append([]int{lastWorker}, highs...)
		}
		for i, n := range numbers {
			if n < lows[i] || n > highs[i] {
				return api.Event{}, false
			}
		}
		for _, text := range texts {
			if len(text) > 80 {
				return api.Event{}, false
			}
		}
		return p.make(numbers, texts), true
	}
	return api.Event{}, false
}

func plainParse(text string) ([]api.Event, int, api.Errno) {
	if len(text) > lastByte {
		return nil, 0, api.ErrScriptForm
	}
	var l []api.Event
	for at := 1; ; at++ {
		line, rest, more := strings.Cut(text, "\n")
		if !silent.MatchString(line) {
			e, is := plainEvent(line)
			if !is || len(l) == lastEvent {
				return nil, at, api.ErrScriptLine
			}
			l = append(l, e)
		}
		if !more {
			return l, 0, api.OK
		}
		text = rest
	}
}

// plainQuote is a text, quoted.
func plainQuote(text string) string {
	s := `"`
	for _, c := range []byte(text) {
		if strings.ContainsRune(" !#$%&'()*+,-./0123456789:;<=>?@ABCDEFGHIJKLMNOPQRSTUVWXYZ[]^_`abcdefghijklmnopqrstuvwxyz{|}~", rune(c)) {
			s += string(rune(c))
		} else {
			s += `\x` + strconv.FormatInt(0x100+int64(c), 16)[1:]
		}
	}
	return s + `"`
}

// plainLine is a right event's line: the one that is made of a shape with the event's own numbers and texts, and says that event again; "", if none does.
func plainLine(e api.Event) string {
	texts := [][]string{nil, {e.Call.Key}, {e.Call.Key, e.Call.High}, {e.Call.Key, e.Call.Val}}
	numbers := [][]int{{e.W}, {e.W, e.Call.Mode}, {e.W, e.Call.Draw}, {e.W, e.Call.N}, {e.W, e.N}, {e.N, e.Tear}, {e.N}}
	for _, p := range patterns {
		words := strings.Fields(p.shape)
		for _, ns := range numbers {
			for _, ts := range texts {
				if len(ns) != count(words, "w")+count(words, "n") || len(ts) != count(words, "t") || p.make(ns, ts) != e {
					continue
				}
				line := fill(words, ns, ts)
				if got, is := plainEvent(line); is && got == e {
					return line
				}
			}
		}
	}
	return ""
}

func count(words []string, word string) int {
	n := 0
	for _, w := range words {
		if w == word {
			n++
		}
	}
	return n
}

// fill is a shape with numbers and texts in it.
func fill(shape []string, ns []int, ts []string) string {
	var words []string
	for _, word := range shape {
		switch word {
		case "w", "n":
			word, ns = strconv.Itoa(ns[0]), ns[1:]
		case "t":
			word, ts = plainQuote(ts[0]), ts[1:]
		}
		words = append(words, word)
	}
	return strings.Join(words, " ")
}

func plainShow(l []api.Event) (string, api.Errno) {
	var b strings.Builder
	for _, e := range l {
		line := plainLine(e)
		if line == "" {
			return "", api.ErrScriptForm
		}
		b.WriteString(line + "\n")
	}
	if len(l) > lastEvent || b.Len() > lastByte {
		return "", api.ErrScriptForm
	}
	return b.String(), api.OK
}

// anyText is one of any bytes, most of them short.
func anyText(r *rand.Rand) string {
	n := r.Intn(4)
	if r.Intn(9) == 0 {
		n = 76 + r.Intn(6)
	}
	b := make([]byte, n)
	for i := range b {
		b[i] = byte(r.Intn(256))
		if r.Intn(2) == 0 {
			b[i] = []byte("ab \"\\;x0\n\x7f")[r.Intn(10)]
		}
	}
	return string(b)
}

var numbers = []int{0, 0, 1, 2, 7, 10, 15, 15, 16, -1, -2, lastOp, lastOp + 1, lastStep, lastStep + 1, most, most + 1, least, least - 1, 1 << 40}

func anyNumber(r *rand.Rand) int { return numbers[r.Intn(len(numbers))] }

// anyEvent is one of any kind, which is right more often than not.
func anyEvent(r *rand.Rand) api.Event {
	p := patterns[r.Intn(len(patterns))]
	n := []int{r.Intn(16), r.Intn(100), 0}
	if !strings.Contains(p.shape, "w") {
		n[0] = r.Intn(lastOp)
	}
	t := []string{anyText(r), anyText(r)}
	for range r.Intn(3) / 2 {
		n[r.Intn(2)] = anyNumber(r)
	}
	e := p.make(n, t)
	if r.Intn(12) == 0 {
		spoil(r, &e)
	}
	return e
}

// spoil gives a field something.
func spoil(r *rand.Rand, e *api.Event) {
	switch r.Intn(8) {
	case 0:
		e.Kind = r.Intn(8) - 1
	case 1:
		e.Call.Kind = r.Intn(14) - 1
	case 2, 3:
		*namedTexts(e)[[]string{"Key", "High", "Val"}[r.Intn(3)]] = anyText(r)
	default:
		*named(e)[[]string{"W", "N", "Tear", "Mode", "Draw", "Call.N"}[r.Intn(6)]] = anyNumber(r)
	}
}

// P20.1: Right and Show at random, against what is told plainly.
func TestPlainShow(t *testing.T) {
	r := rand.New(rand.NewSource(20))
	count := map[api.Errno]int{}
	for range 6000 {
		var l []api.Event
		for range r.Intn(4) {
			l = append(l, anyEvent(r))
		}
		want, code := plainShow(l)
		count[code]++
		if script.Right(l) != (code == api.OK) {
			t.Fatalf("Right(%v): not %v", l, code)
		}
		if got, e := script.Show(l); got != want || e != code {
			t.Fatalf("Show(%v): %q %v, not %q %v", l, got, e, want, code)
		}
	}
	if count[api.OK] < 2000 || count[api.ErrScriptForm] < 1000 {
		t.Error("not tried enough", count)
	}
}

// anyScript is a text of lines, most of them right, with blanks and lines that say nothing.
func anyScript(r *rand.Rand) string {
	var lines []string
	for range r.Intn(5) {
		switch r.Intn(8) {
		case 0:
			lines = append(lines, []string{"", " ", "; x", "  ;\"", ";run 1"}[r.Intn(5)])
		default:
			if line := plainLine(anyEvent(r)); line != "" {
				lines = append(lines, widen(r, line))
			}
		}
	}
	return strings.Join(lines, "\n")
}

// widen puts more blanks where one stands between words, ahead and behind.
func widen(r *rand.Rand, line string) string {
	var b strings.Builder
	quoted := false
	more := func() { b.WriteString(strings.Repeat(" ", max(0, r.Intn(6)-3))) }
	more()
	for _, c := range []byte(line) {
		if c == '"' {
			quoted = !quoted
		}
		if c == ' ' && !quoted {
			more()
		}
		b.WriteByte(c)
	}
	more()
	return b.String()
}

// pieces are what a text is spoiled with.
var pieces = []string{" ", " ", "\n", "\"", "\"", `\x`, `\`, "0", "1", "-", ";", "a", "\x00", "\xff", "ä", "\t", "\"\"", "run", "x4", "99999"}

// muddle takes a byte away, puts a piece in, or turns bytes into one.
func muddle(r *rand.Rand, text string) string {
	for range 1 + r.Intn(2) {
		at := r.Intn(len(text) + 1)
		to := min(len(text), at+r.Intn(3))
		piece := ""
		if r.Intn(3) > 0 {
			piece = pieces[r.Intn(len(pieces))]
		}
		text = text[:at] + piece + text[to:]
	}
	return text
}

func sameParse(t *testing.T, text string) ([]api.Event, api.Errno) {
	t.Helper()
	l, at, e := script.Parse(text)
	want, wantAt, code := plainParse(text)
	if !slices.Equal(l, want) || at != wantAt || e != code || e != api.OK && l != nil {
		t.Fatalf("Parse(%q): %v %d %v, not %v %d %v", text, l, at, e, want, wantAt, code)
	}
	return l, e
}

// P20.2: Parse at random, against what is told plainly.
func TestPlainParse(t *testing.T) {
	r := rand.New(rand.NewSource(21))
	count := map[api.Errno]int{}
	for i := range 20000 {
		text := anyScript(r)
		if i%4 > 0 {
			text = muddle(r, text)
		}
		_, e := sameParse(t, text)
		count[e]++
	}
	if count[api.OK] < 5000 || count[api.ErrScriptLine] < 5000 {
		t.Error("not tried enough", count)
	}
}

// P20.2: each text of up to some pieces.
func TestAllShort(t *testing.T) {
	parts := []string{"run", "0", "get", "scan", `"`, ` `, "a", ";", "\n", `\x0`}
	right := 0
	var all func(text string, n int)
	all = func(text string, n int) {
		if l, e := sameParse(t, text); e == api.OK && len(l) > 0 {
			right++
		}
		if n == 0 {
			return
		}
		for _, p := range parts {
			all(text+p, n-1)
		}
	}
	all("", 4)
	for _, ahead := range []string{"run ", "0 get ", "0 scan ", `0 scan "`} {
		all(ahead, 4)
	}
	if right < 100 {
		t.Error("not tried enough", right)
	}
}

// P20.3: replies at random.
func TestPlainReply(t *testing.T) {
	r := rand.New(rand.NewSource(22))
	count := map[string]int{}
	for range 4000 {
		c := api.Call{Kind: r.Intn(14) - 1, Key: anyText(r), N: anyNumber(r)}
		reply := api.Reply{Code: api.Errno(max(0, r.Intn(400)-200)), Val: anyText(r), Found: r.Intn(2) == 0, Time: int64(anyNumber(r)), N: anyNumber(r)}
		for range r.Intn(4) {
			reply.Rows = append(reply.Rows, api.Row{Key: anyText(r), Val: anyText(r), Time: int64(r.Intn(2))})
		}
		want := "ok"
		var words []string
		for _, row := range reply.Rows {
			words = append(words, plainQuote(row.Key), plainQuote(row.Val))
		}
		switch {
		case reply.Code != 0:
			want = "error " + strconv.Itoa(int(reply.Code))
		case c.Kind == 2 && reply.Found:
			want = plainQuote(reply.Val)
		case c.Kind == 2 || c.Kind == 3 && len(words) == 0:
			want = "none"
		case c.Kind == 3:
			want = strings.Join(words, " ")
		case c.Kind == 7:
			want = strconv.FormatInt(reply.Time, 10)
		case c.Kind == 11:
			want = strconv.Itoa(reply.N)
		}
		count[want]++
		if got := script.Reply(c, reply); got != want {
			t.Fatalf("Reply(%v, %v): %q, not %q", c, reply, got, want)
		}
	}
	if count["ok"] < 500 || count["none"] < 50 {
		t.Error("not tried enough", count["ok"], count["none"])
	}
}
