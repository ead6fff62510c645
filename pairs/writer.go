package pairs

import (
	"slices"

	"varve/api"
	"varve/disk"
	"varve/record"
)

const (
	ManifestName = "manifest"
	NewName      = "manifest.new" // of a manifest that is being made
	FirstNumber  = 1              // of a pair
)

// step is an operation of the disk.
type step struct {
	due func() bool // asked when its turn comes: if it is not due, the next one's turn comes at once
	do  func() api.Errno
}

// Writer makes a pair's files, and the manifest that names them, one operation of the disk a step.
type Writer struct {
	manifest api.Manifest
	left     []step    // none, if the writer is done
	over     api.Errno // what the disk has answered, if it was an error
}

// NewWriter is one of a manifest, and of the files of one of its pairs; false: the manifest is not right. Nothing is done yet.
func NewWriter(d *disk.Disk, m api.Manifest, f Files) (Writer, bool) {
	body, e := record.PutManifest(m)
	if e != api.OK {
		return Writer{}, false
	}
	m.Pairs = slices.Clone(m.Pairs)
	return Writer{manifest: m, left: steps(d, f, framed(body))}, true
}

// Next does its next operation of the disk; true: it is done.
func (w *Writer) Next() (bool, api.Errno) {
	if w.over != api.OK {
		return false, w.over
	}
	for len(w.left) > 0 && !w.left[0].due() {
		w.left = w.left[1:]
	}
	if len(w.left) == 0 {
		return true, api.OK
	}
	w.over = w.left[0].do()
	w.left = w.left[1:]
	if w.over != api.OK || len(w.left) == 0 {
		// With the list goes what was to be written.
		w.left = nil
		return w.over == api.OK, w.over
	}
	return false, api.OK
}

// Made is the manifest that it makes.
func (w *Writer) Made() api.Manifest {
	m := w.manifest
	m.Pairs = slices.Clone(m.Pairs)
	return m
}

// IsRight: is the manifest right (chapter 6)?
func IsRight(m api.Manifest) bool {
	_, e := record.PutManifest(m)
	return e == api.OK
}

// NewNumber is the Number of a new pair beside a manifest's.
func NewNumber(m api.Manifest) int {
	next := FirstNumber
	for _, p := range m.Pairs {
		next = max(next, p.Number+1)
	}
	return next
}

// steps are what a writer does: a pair's files last, names and all, ahead of the manifest that names them.
func steps(d *disk.Disk, f Files, manifest []byte) []step {
	always := func() bool { return true }
	deleting := func(name string) step {
		return step{
			due: func() bool { return slices.Contains(d.Names(), name) },
			do:  func() api.Errno { return d.Delete(name) },
		}
	}
	appending := func(name string, b []byte) step {
		return step{due: always, do: func() api.Errno { return d.Append(name, b) }}
	}
	syncing := func(name string) step {
		return step{due: always, do: func() api.Errno { return d.Sync(name) }}
	}
	renaming := step{due: always, do: func() api.Errno { return d.Rename(NewName, ManifestName) }}
	syncingDir := step{due: always, do: d.SyncDir}
	data, delta := DataName(f.number), DeltaName(f.number)
	return []step{
		deleting(data), deleting(delta), deleting(NewName),
		appending(data, f.data), syncing(data),
		appending(delta, f.delta), syncing(delta),
		syncingDir,
		appending(NewName, manifest), syncing(NewName),
		renaming,
		syncingDir,
	}
}
