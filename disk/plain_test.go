package disk_test

import (
	"bytes"
	"maps"
	"math/rand"
	"slices"
	"strings"
	"testing"

	"varve/api"
	"varve/disk"
)

// plain is the chapter's disk told in another way: instead of directory operations it keeps each directory that there was since the last SyncDir.
type plain struct {
	files []plainFile      // by their numbers; none goes
	dirs  []map[string]int // the first one is synced, the last one is that of now
	ops   int
	cut   int
	gone  bool
}

type plainFile struct{ synced, rest string }

func newPlain() *plain { return &plain{dirs: []map[string]int{{}}, cut: -1} }

func (p *plain) now() map[string]int { return p.dirs[len(p.dirs)-1] }

func (p *plain) name(s string) bool {
	return len(s) >= 1 && len(s) <= 16 && strings.Trim(s, "abcdefghijklmnopqrstuvwxyzABCDEFGHIJKLMNOPQRSTUVWXYZ0123456789-.") == ""
}

// first is the first error that holds, of an operation or of a Read.
func (p *plain) first(operation bool, must string, names ...string) api.Errno {
	if operation && p.cut >= 0 && p.ops >= p.cut {
		p.gone = true
	}
	_, there := p.now()[must]
	switch {
	case p.gone:
		return api.ErrDiskOff
	case slices.ContainsFunc(names, func(s string) bool { return !p.name(s) }):
		return api.ErrDiskName
	case must != "" && !there:
		return api.ErrDiskNone
	case operation && p.ops >= api.MaxOps:
		return api.ErrDiskFull
	}
	if operation {
		p.ops++
	}
	return api.OK
}

func (p *plain) with(change func(map[string]int)) {
	next := maps.Clone(p.now())
	change(next)
	p.dirs = append(p.dirs, next)
}

func (p *plain) append(name string, b []byte) api.Errno {
	e := p.first(true, "", name)
	if e != api.OK {
		return e
	}
	i, there := p.now()[name]
	if !there && len(p.now()) >= api.MaxFiles || len(b) > api.MaxFile || there && len(p.files[i].synced+p.files[i].rest)+len(b) > api.MaxFile {
		p.ops--
		return api.ErrDiskFull
	}
	if !there {
		i = len(p.files)
		p.files = append(p.files, plainFile{})
		p.with(func(dir map[string]int) { dir[name] = i })
	}
	p.files[i].rest += string(b)
	return api.OK
}

func (p *plain) read(name string) (string, api.Errno) {
	if e := p.first(false, name, name); e != api.OK {
		return "", e
	}
	f := p.files[p.now()[name]]
	return f.synced + f.rest, api.OK
}

func (p *plain) sync(name string) api.Errno {
	e := p.first(true, name, name)
	if e == api.OK {
		f := &p.files[p.now()[name]]
		*f = plainFile{f.synced + f.rest, ""}
	}
	return e
}

func (p *plain) rename(from, to string) api.Errno {
	e := p.first(true, from, from, to)
	if e == api.OK {
		p.with(func(dir map[string]int) {
			dir[to] = dir[from]
			if from != to {
				delete(dir, from)
			}
		})
	}
	return e
}

func (p *plain) delete(name string) api.Errno {
	e := p.first(true, name, name)
	if e == api.OK {
		p.with(func(dir map[string]int) { delete(dir, name) })
	}
	return e
}

func (p *plain) syncDir() api.Errno {
	e := p.first(true, "")
	if e == api.OK {
		p.dirs = p.dirs[len(p.dirs)-1:]
	}
	return e
}

func (p *plain) poke(name string, at int, b byte) api.Errno {
	i, there := p.now()[name]
	switch {
	case !p.name(name):
		return api.ErrDiskName
	case !there:
		return api.ErrDiskNone
	}
	f := &p.files[i]
	all := []byte(f.synced + f.rest)
	if at < 0 || at > len(all)-1 {
		return api.ErrArg
	}
	all[at] = b
	*f = plainFile{string(all[:len(f.synced)]), string(all[len(f.synced):])}
	return api.OK
}

func (p *plain) crash(f api.Fate) *plain {
	c := newPlain()
	dirs := min(max(f.Dirs, 0), len(p.dirs)-1)
	for name, i := range p.dirs[dirs] {
		stay := []byte(p.files[i].rest)
		stay = stay[:min(max(f.Keep, 0), len(stay))]
		for at := range stay {
			if len(stay)-at <= f.Tear {
				stay[at] = ^stay[at]
			}
		}
		c.dirs[0][name] = len(c.files)
		c.files = append(c.files, plainFile{p.files[i].synced + string(stay), ""})
	}
	return c
}

// same: are both alike, as far as names and bytes tell?
func same(t *testing.T, d *disk.Disk, p *plain) {
	t.Helper()
	names := slices.Sorted(maps.Keys(p.now()))
	if got := d.Names(); !slices.Equal(got, names) || d.Ops() != p.ops {
		t.Fatalf("%q, %d operations; not %q, %d", got, d.Ops(), names, p.ops)
	}
	for _, name := range append(names, "q", "?") {
		b, e := d.Read(name)
		s, want := p.read(name)
		if string(b) != s || e != want {
			t.Fatalf("%s: %q %v, not %q %v", name, b, e, s, want)
		}
	}
}

// chance is one call at random, done on both.
func chance(t *testing.T, r *rand.Rand, d *disk.Disk, p *plain) {
	t.Helper()
	names := []string{"a", "b", "c", "d", "e", "q", "", "a b"}
	name, other := names[min(r.Intn(14)/2, 7)], names[min(r.Intn(14)/2, 7)]
	var got, want api.Errno
	switch r.Intn(9) {
	case 0, 1, 2:
		b := make([]byte, r.Intn(5))
		r.Read(b)
		got, want = d.Append(name, bytes.Clone(b)), p.append(name, b)
	case 3:
		got, want = d.Sync(name), p.sync(name)
	case 4, 5:
		got, want = d.Rename(name, other), p.rename(name, other)
	case 6:
		got, want = d.Delete(name), p.delete(name)
	case 7:
		if r.Intn(3) == 0 {
			got, want = d.SyncDir(), p.syncDir()
		}
	case 8:
		at, b := r.Intn(8)-1, byte(r.Intn(256))
		got, want = d.Poke(name, at, b), p.poke(name, at, b)
	}
	if r.Intn(12) == 0 {
		p.cut, p.gone = r.Intn(14)-4+p.ops, false
		d.CutAt(p.cut)
	}
	if got != want {
		t.Fatalf("answered %v, not %v", got, want)
	}
}

func TestAsThePlainDisk(t *testing.T) {
	for seed := range int64(60) {
		r := rand.New(rand.NewSource(seed))
		d, p := disk.New(), newPlain()
		for range 400 {
			chance(t, r, d, p)
			same(t, d, p)
			f := api.Fate{Keep: r.Intn(9) - 1, Dirs: r.Intn(9) - 1, Tear: r.Intn(6) - 1}
			same(t, d.Crash(f), p.crash(f))
			if r.Intn(50) == 0 {
				d, p = d.Crash(f), p.crash(f)
			}
		}
	}
}

// What follows

// What was synced, under a name that SyncDir reached and that nobody changed since, is there behind each crash.
func TestWhatIsSyncedStays(t *testing.T) {
	for seed := range int64(40) {
		r := rand.New(rand.NewSource(seed))
		d, p := disk.New(), newPlain()
		ok(t, d.Append("kept", []byte("first")), d.Sync("kept"), d.SyncDir())
		ok(t, p.append("kept", []byte("first")), p.sync("kept"), p.syncDir())
		for range 60 {
			chance(t, r, d, p)
			if r.Intn(6) == 0 {
				want(t, d.Append("kept", []byte("more")), p.append("kept", []byte("more")))
			}
			c := d.Crash(api.Fate{Keep: r.Intn(5) - 1, Dirs: r.Intn(9) - 1, Tear: r.Intn(9)})
			if b, e := c.Read("kept"); e != api.OK || !bytes.HasPrefix(b, []byte("first")) {
				t.Fatalf("%q %v", b, e)
			}
		}
	}
}

func TestAWholeCrashLosesNothing(t *testing.T) {
	for seed := range int64(40) {
		r := rand.New(rand.NewSource(seed))
		d, p := disk.New(), newPlain()
		for range 100 {
			chance(t, r, d, p)
			c := d.Crash(whole)
			d.CutAt(-1)
			p.cut, p.gone = -1, false
			if !slices.Equal(c.Names(), d.Names()) {
				t.Fatal(c.Names(), d.Names())
			}
			for _, name := range d.Names() {
				a, _ := d.Read(name)
				b, _ := c.Read(name)
				if !bytes.Equal(a, b) {
					t.Fatalf("%s: %q, not %q", name, b, a)
				}
			}
		}
	}
}

func TestAGreaterKeepBeginsWithTheLesser(t *testing.T) {
	r := rand.New(rand.NewSource(1))
	d, p := disk.New(), newPlain()
	for range 300 {
		chance(t, r, d, p)
		for keep := range 6 {
			less, more := d.Crash(api.Fate{Keep: keep, Dirs: 99}), d.Crash(api.Fate{Keep: keep + 1, Dirs: 99})
			for _, name := range less.Names() {
				a, _ := less.Read(name)
				b, e := more.Read(name)
				if e != api.OK || !bytes.HasPrefix(b, a) {
					t.Fatalf("%s: %q %v does not begin with %q", name, b, e, a)
				}
			}
		}
	}
}

// Behind the operation at which the power goes nothing changes: neither the disk, nor what a crash leaves of it.
func TestNothingChangesWithoutPower(t *testing.T) {
	for seed := range int64(40) {
		r := rand.New(rand.NewSource(seed))
		d, p := disk.New(), newPlain()
		for range 40 {
			chance(t, r, d, p)
		}
		d.CutAt(d.Ops() - r.Intn(2)*d.Ops())
		f := api.Fate{Keep: r.Intn(5), Dirs: r.Intn(9), Tear: r.Intn(3)}
		before, beforeWhole, ops := tell(d.Crash(f)), tell(d.Crash(whole)), d.Ops()
		for range 5 {
			for _, name := range []string{"a", "b", "c", "d", "e", "q"} {
				for which, call := range fives(d, name) {
					if e := call(); e != api.ErrDiskOff {
						t.Fatalf("%s: %v", which, e)
					}
				}
			}
		}
		if tell(d.Crash(f)) != before || tell(d.Crash(whole)) != beforeWhole || d.Ops() != ops {
			t.Fatal("changed without power")
		}
		d.CutAt(-1)
		if tell(d) != beforeWhole {
			t.Fatal("the disk is not as it was")
		}
	}
}

func tell(d *disk.Disk) string {
	var all []string
	for _, name := range d.Names() {
		b, _ := d.Read(name)
		all = append(all, name+"="+string(b))
	}
	return strings.Join(all, "\x00")
}
