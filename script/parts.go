package script

import (
	"math"
	"strconv"

	"varve/api"
)

// maxBytes is how long a text may be. It is more than a key or a value may have, so that a script can ask for what is refused.
const maxBytes = 80

// part is one of what an event's line has a word for.
type part int

const (
	worker part = iota
	mode
	key
	high
	val
	draw
	pair
	steps
	keep
	tear
	operation
)

// text is where an event has a part that is a text; nil, if it is a number.
func (p part) text(e *api.Event) *string {
	switch p {
	case key:
		return &e.Call.Key
	case high:
		return &e.Call.High
	case val:
		return &e.Call.Val
	}
	return nil
}

// number is where an event has a part that is a number.
func (p part) number(e *api.Event) *int {
	switch p {
	case worker:
		return &e.W
	case mode:
		return &e.Call.Mode
	case draw:
		return &e.Call.Draw
	case pair:
		return &e.Call.N
	case tear:
		return &e.Tear
	}
	return &e.N
}

// bounds are the least and the greatest number that a part may be.
func (p part) bounds() (int, int) {
	switch p {
	case worker:
		return 0, api.MaxWorkers - 1
	case steps:
		return 0, api.MaxSteps
	case keep, tear:
		return 0, math.MaxInt32
	case operation:
		return 0, api.MaxOps
	}
	return math.MinInt32, math.MaxInt32
}

func (p part) isRight(e *api.Event) bool {
	if text := p.text(e); text != nil {
		return len(*text) <= maxBytes
	}
	n := *p.number(e)
	least, most := p.bounds()
	return n >= least && n <= most
}

func (p part) clear(e *api.Event) {
	if text := p.text(e); text != nil {
		*text = ""
		return
	}
	*p.number(e) = 0
}

func (p part) show(e api.Event) string {
	if text := p.text(&e); text != nil {
		return quote(*text)
	}
	return strconv.Itoa(*p.number(&e))
}

// read takes a part from its word, if that is one.
func (p part) read(e *api.Event, word string) bool {
	var is bool
	if text := p.text(e); text != nil {
		*text, is = unquote(word)
		return is
	}
	*p.number(e), is = number(word)
	return is
}
