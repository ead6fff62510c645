// Package pairs is what the layers ckpt and merge share: the files of a pair, and who makes them and the manifest that names them. See shared/doc/12-ckpt.md.
package pairs

import (
	"bytes"
	"strconv"

	"varve/api"
	"varve/disk"
	"varve/frame"
	"varve/num"
	"varve/record"
)

const firstKind = 'P' // with it begins the body of the first frame of a pair's files

// Content is what the two files of a pair have.
type Content struct {
	Rows []api.Row  // the data file's
	Gone []api.Gone // the delta file's
}

// Files are the bytes of the two files of a pair.
type Files struct {
	number      int
	data, delta []byte
}

// Put is the files of a pair; false: it may not have this.
func Put(p api.Pair, c Content) (Files, bool) {
	data, dataFits := rowKind().put(c.Rows, p)
	delta, deltaFits := goneKind().put(c.Gone, p)
	if !dataFits || !deltaFits {
		return Files{}, false
	}
	return Files{number: p.Number, data: data, delta: delta}, true
}

// Read is what the files of a pair on a disk have; false: they may not be.
func Read(d *disk.Disk, p api.Pair) (Content, bool) {
	rows, dataFits := rowKind().read(d, p)
	gone, deltaFits := goneKind().read(d, p)
	if !dataFits || !deltaFits {
		return Content{}, false
	}
	return Content{Rows: rows, Gone: gone}, true
}

// DataName, DeltaName: a pair's files.
func DataName(number int) string { return "data-" + strconv.Itoa(number) }

func DeltaName(number int) string { return "delta-" + strconv.Itoa(number) }

// kind is what one of a pair's two files has behind its first frame.
type kind[T any] struct {
	name   func(number int) string
	body   func(x T) ([]byte, api.Errno)
	take   func(body []byte) (T, int, api.Errno)
	fits   func(x T, p api.Pair) bool // may this pair have it, by its Time?
	behind func(x, y T) bool          // may x stand right behind y?
}

func rowKind() kind[api.Row] {
	return kind[api.Row]{
		name:   DataName,
		body:   record.PutRow,
		take:   record.Row,
		fits:   func(r api.Row, p api.Pair) bool { return r.Time > p.From && r.Time <= p.To },
		behind: func(x, y api.Row) bool { return x.Key > y.Key },
	}
}

func goneKind() kind[api.Gone] {
	return kind[api.Gone]{
		name: DeltaName,
		body: record.PutGone,
		take: record.Gone,
		fits: func(g api.Gone, p api.Pair) bool { return g.Time <= p.From },
		behind: func(x, y api.Gone) bool {
			return x.Key > y.Key || x.Key == y.Key && x.Time > y.Time
		},
	}
}

// put is the bytes of a pair's file; false: it may not have this list.
func (k kind[T]) put(list []T, p api.Pair) ([]byte, bool) {
	if len(list) > api.MaxRows || !k.mayHave(list, p) {
		return nil, false
	}
	bodies := [][]byte{firstBody(p, len(list))}
	for _, x := range list {
		body, e := k.body(x)
		if e != api.OK {
			return nil, false
		}
		bodies = append(bodies, body)
	}
	return framed(bodies...), true
}

// read is what a pair's file on a disk has; false: it may not be.
func (k kind[T]) read(d *disk.Disk, p api.Pair) ([]T, bool) {
	b, e := d.Read(k.name(p.Number))
	if e != api.OK {
		return nil, false
	}
	bodies, end, e := frame.All(b, 0)
	if e != api.OK || end < len(b) || len(bodies) == 0 {
		return nil, false
	}
	// Numbers have one form: whatever else the first body could say, it would say by other bytes.
	if !bytes.Equal(bodies[0], firstBody(p, len(bodies)-1)) {
		return nil, false
	}
	var list []T
	for _, body := range bodies[1:] {
		x, _, e := k.take(body)
		if e != api.OK {
			return nil, false
		}
		list = append(list, x)
	}
	return list, k.mayHave(list, p)
}

// mayHave: may a pair have this list, if each of it is right?
func (k kind[T]) mayHave(list []T, p api.Pair) bool {
	for i, x := range list {
		if !k.fits(x, p) || i > 0 && !k.behind(x, list[i-1]) {
			return false
		}
	}
	return true
}

func firstBody(p api.Pair, count int) []byte {
	b := []byte{firstKind}
	b = num.Put(b, uint64(p.Number))
	b = num.Put(b, uint64(p.From))
	b = num.Put(b, uint64(p.To))
	return num.Put(b, uint64(count))
}

// framed is the frames of the bodies, one behind the other, numbered from 0 on.
func framed(bodies ...[]byte) []byte {
	var out []byte
	for i, body := range bodies {
		// Each is put by itself, since Put copies what stands ahead, which many rows would make dear. It answers no error: what a writer frames is short.
		b, _ := frame.Put(nil, uint64(i), body)
		out = append(out, b...)
	}
	return out
}
