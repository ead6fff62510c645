package script

import (
	"slices"
	"strings"

	"varve/api"
)

// form is what a line is: the word that names it, which event it says, and that event's parts, in the order of their words. All that is not a part is zero.
type form struct {
	name  string
	kinds kinds
	parts []part
}

// kinds tell an event's form: its own Kind, and that of its call.
type kinds struct {
	event int
	call  int
}

func kindsOf(e api.Event) kinds { return kinds{e.Kind, e.Call.Kind} }

func forms() []form {
	return []form{
		{"begin", kinds{api.EvCall, api.CBegin}, []part{worker, mode}},
		{"get", kinds{api.EvCall, api.CGet}, []part{worker, key}},
		{"scan", kinds{api.EvCall, api.CScan}, []part{worker, key, high}},
		{"insert", kinds{api.EvCall, api.CInsert}, []part{worker, key, val, draw}},
		{"update", kinds{api.EvCall, api.CUpdate}, []part{worker, key, val}},
		{"delete", kinds{api.EvCall, api.CDelete}, []part{worker, key}},
		{"commit", kinds{api.EvCall, api.CCommit}, []part{worker}},
		{"abort", kinds{api.EvCall, api.CAbort}, []part{worker}},
		{"checkpoint", kinds{api.EvCall, api.CCheckpoint}, []part{worker}},
		{"merge", kinds{api.EvCall, api.CMerge}, []part{worker, pair}},
		{"sweep", kinds{api.EvCall, api.CSweep}, []part{worker}},
		{"step", kinds{event: api.EvStep}, []part{worker, steps}},
		{"run", kinds{event: api.EvRun}, []part{worker}},
		{"crash", kinds{event: api.EvCrash}, []part{keep, tear}},
		{"cut", kinds{event: api.EvCut}, []part{operation}},
	}
}

func byWords() map[string]form {
	m := map[string]form{}
	for _, f := range forms() {
		m[f.name] = f
	}
	return m
}

func byKinds() map[kinds]form {
	m := map[kinds]form{}
	for _, f := range forms() {
		m[f.kinds] = f
	}
	return m
}

// ahead is how many parts stand ahead of the name: a call's worker does.
func (f form) ahead() int {
	if f.kinds.call != 0 {
		return 1
	}
	return 0
}

func (f form) isRight(e api.Event) bool {
	for _, p := range f.parts {
		if !p.isRight(&e) {
			return false
		}
		p.clear(&e)
	}
	return e == api.Event{Kind: f.kinds.event, Call: api.Call{Kind: f.kinds.call}}
}

// show is a right event's line.
func (f form) show(e api.Event) string {
	var words []string
	for _, p := range f.parts {
		words = append(words, p.show(e))
	}
	return strings.Join(slices.Insert(words, f.ahead(), f.name), " ")
}

// read is the event that a line's words say, if they say a right one.
func read(forms map[string]form, words []string) (api.Event, bool) {
	for at, word := range words {
		if f, is := forms[word]; is && at == f.ahead() {
			return f.read(slices.Delete(words, at, at+1))
		}
	}
	return api.Event{}, false
}

// read takes the parts from their words.
func (f form) read(words []string) (api.Event, bool) {
	if len(words) != len(f.parts) {
		return api.Event{}, false
	}
	e := api.Event{Kind: f.kinds.event, Call: api.Call{Kind: f.kinds.call}}
	for i, p := range f.parts {
		if !p.read(&e, words[i]) {
			return api.Event{}, false
		}
	}
	return e, f.isRight(e)
}
