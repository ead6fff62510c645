package script_test

import (
	"math/rand"
	"slices"
	"strings"
	"testing"

	"varve/api"
	"varve/script"
)

// rightScript is one of up to n events.
func rightScript(r *rand.Rand, n int) []api.Event {
	var l []api.Event
	for range n {
		if e := anyEvent(r); script.Right([]api.Event{e}) {
			l = append(l, e)
		}
	}
	return l
}

// What follows: Parse of Show is the script.
func TestParseOfShow(t *testing.T) {
	r := rand.New(rand.NewSource(23))
	for range 2000 {
		l := rightScript(r, r.Intn(12))
		text, e := script.Show(l)
		if e != api.OK {
			t.Fatal(l, e)
		}
		parses(t, text, l...)
		parses(t, strings.TrimSuffix(text, "\n"), l...)
	}
}

// What follows: Show of what is parsed is a text of which Parse tells the same. A text that was shown once is shown so again.
func TestShowOfParse(t *testing.T) {
	r := rand.New(rand.NewSource(24))
	count := 0
	for range 8000 {
		text := muddle(r, anyScript(r))
		l, _, e := script.Parse(text)
		if e != api.OK {
			continue
		}
		shown, e := script.Show(l)
		if e != api.OK {
			t.Fatalf("Show of Parse(%q): %v", text, e)
		}
		parses(t, shown, l...)
		shows(t, shown, l...)
		if len(l) > 0 {
			count++
		}
	}
	if count < 500 {
		t.Error("not tried enough", count)
	}
}

// What follows: lines that say nothing, and more blanks, make no difference but to the numbers of lines.
func TestNoDifference(t *testing.T) {
	r := rand.New(rand.NewSource(25))
	silence := []string{"", "   ", ";", "  ; run 1", `; "`, ";;;"}
	var right, wrong int
	for range 4000 {
		l := rightScript(r, r.Intn(6))
		text, _ := script.Show(l)
		lines := strings.Split(strings.TrimSuffix(text, "\n"), "\n")
		if r.Intn(2) == 0 {
			lines = slices.Insert(lines, r.Intn(len(lines)+1), []string{"none", "run 16", `0 get "`, "cut", "x ;"}[r.Intn(5)])
		}
		want, at, code := script.Parse(strings.Join(lines, "\n"))
		var wide []string
		wideAt := 0 // where the line that is none stands by now
		for i, line := range lines {
			for range r.Intn(3) {
				wide = append(wide, silence[r.Intn(len(silence))])
			}
			wide = append(wide, widen(r, line))
			if i == at-1 {
				wideAt = len(wide)
			}
		}
		for range r.Intn(3) {
			wide = append(wide, silence[r.Intn(len(silence))])
		}
		if code == api.OK {
			parses(t, strings.Join(wide, "\n"), want...)
			right++
		} else {
			refuses(t, strings.Join(wide, "\n"), wideAt, code)
			wrong++
		}
	}
	if right < 1000 || wrong < 1000 {
		t.Error("not tried enough", right, wrong)
	}
}

// R4: what is answered hangs on what was handed in alone.
func TestSameAgain(t *testing.T) {
	r := rand.New(rand.NewSource(26))
	for range 300 {
		l := []api.Event{anyEvent(r), anyEvent(r)}
		text := muddle(r, anyScript(r))
		shown, code := script.Show(l)
		want, at, e := script.Parse(text)
		for range 3 {
			if again, c := script.Show(l); again != shown || c != code || script.Right(l) != (code == api.OK) {
				t.Fatal(l)
			}
			if again, a, c := script.Parse(text); !slices.Equal(again, want) || a != at || c != e {
				t.Fatal(text)
			}
		}
	}
}
