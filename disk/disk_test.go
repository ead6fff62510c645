package disk_test

import (
	"bytes"
	"math"
	"slices"
	"strconv"
	"strings"
	"testing"

	"varve/api"
	"varve/disk"
)

// whole is the crash at which nothing is lost.
var whole = api.Fate{Keep: math.MaxInt, Dirs: math.MaxInt}

func ok(t *testing.T, answers ...api.Errno) {
	t.Helper()
	for i, e := range answers {
		if e != api.OK {
			t.Fatalf("call %d: %v", i, e)
		}
	}
}

func want(t *testing.T, got, want api.Errno) {
	t.Helper()
	if got != want {
		t.Errorf("answered %v, not %v", got, want)
	}
}

// holds: the disk has these files alone, by name and bytes in turn.
func holds(t *testing.T, d *disk.Disk, files ...string) {
	t.Helper()
	var names []string
	for i := 0; i < len(files); i += 2 {
		names = append(names, files[i])
	}
	if got := d.Names(); !slices.Equal(got, names) {
		t.Errorf("names %q, not %q", got, names)
	}
	for i := 0; i < len(files); i += 2 {
		b, e := d.Read(files[i])
		if e != api.OK || string(b) != files[i+1] {
			t.Errorf("%s: %q %v, not %q", files[i], b, e, files[i+1])
		}
	}
}

// fives are the five calls that are operations, on a file.
func fives(d *disk.Disk, name string) map[string]func() api.Errno {
	return map[string]func() api.Errno{
		"append":  func() api.Errno { return d.Append(name, []byte("+")) },
		"sync":    func() api.Errno { return d.Sync(name) },
		"rename":  func() api.Errno { return d.Rename(name, "to") },
		"delete":  func() api.Errno { return d.Delete(name) },
		"syncdir": func() api.Errno { return d.SyncDir() },
	}
}

func TestExamples(t *testing.T) {
	d := disk.New()
	ok(t, d.Append("a", []byte("xy")))
	holds(t, d, "a", "xy")
	if d.Ops() != 1 {
		t.Error(d.Ops())
	}
	holds(t, d.Crash(api.Fate{Keep: 9}))
	holds(t, d.Crash(api.Fate{Keep: 9, Dirs: 1}), "a", "xy")
	holds(t, d.Crash(api.Fate{Keep: 1, Dirs: 1, Tear: 1}), "a", "\x87")
	ok(t, d.Sync("a"), d.SyncDir(), d.Append("a", []byte("z")), d.Rename("a", "b"))
	holds(t, d.Crash(api.Fate{}), "a", "xy")
	holds(t, d.Crash(api.Fate{Dirs: 1}), "b", "xy")
	d.CutAt(d.Ops())
	holds(t, d, "b", "xyz")
	want(t, d.Append("b", nil), api.ErrDiskOff)
	_, e := d.Read("b")
	want(t, e, api.ErrDiskOff)
	d.CutAt(-1)
	holds(t, d, "b", "xyz")
	want(t, d.Append("a b", []byte("x")), api.ErrDiskName)
	want(t, d.Sync("q"), api.ErrDiskNone)
	want(t, d.Rename("b", ""), api.ErrDiskName)
	want(t, d.Delete("q"), api.ErrDiskNone)
	want(t, d.Poke("b", 3, 0), api.ErrArg)
}

// P2.1

func TestNew(t *testing.T) {
	d := disk.New()
	holds(t, d)
	if d.Ops() != 0 {
		t.Error(d.Ops())
	}
	for i := range 300 {
		ok(t, d.Append("a", nil))
		if d.Ops() != i+1 {
			t.Fatal(d.Ops())
		}
	}
	holds(t, disk.New())
}

func TestIsName(t *testing.T) {
	const letters = "abcdefghijklmnopqrstuvwxyzABCDEFGHIJKLMNOPQRSTUVWXYZ0123456789-."
	for c := range 256 {
		s := string([]byte{byte(c)})
		may := strings.Contains(letters, s)
		for _, name := range []string{s, s + "a", "a" + s, "a" + s + "a", "log-1" + s + ".old"} {
			if disk.IsName(name) != may {
				t.Errorf("IsName(%q) is %v", name, !may)
			}
		}
	}
	for n := range 40 {
		if got := disk.IsName(strings.Repeat("x", n)); got != (n >= 1 && n <= api.MaxName) {
			t.Errorf("%d bytes: %v", n, got)
		}
	}
	for _, s := range []string{"ä", "日本", "a/b", "a b", "a\x00", "_", "..\n"} {
		if disk.IsName(s) {
			t.Errorf("IsName(%q)", s)
		}
	}
	for _, s := range []string{".", "..", "-", "data-1", "log-12.tmp", strings.Repeat("-", api.MaxName)} {
		if !disk.IsName(s) {
			t.Errorf("not IsName(%q)", s)
		}
	}
}

func TestNamesRise(t *testing.T) {
	d := disk.New()
	for _, name := range []string{"b", "a", "B", "a-", "a.", "9", "aa", "10", "."} {
		ok(t, d.Append(name, nil))
	}
	names := []string{".", "10", "9", "B", "a", "a-", "a.", "aa", "b"}
	if got := d.Names(); !slices.Equal(got, names) {
		t.Errorf("%q", got)
	}
	ok(t, d.Delete("a"), d.Rename("b", "0"))
	if got := d.Names(); !slices.Equal(got, []string{".", "0", "10", "9", "B", "a-", "a.", "aa"}) {
		t.Errorf("%q", got)
	}
	if got := d.Crash(whole).Names(); !slices.Equal(got, d.Names()) {
		t.Errorf("%q", got)
	}
}

// Ops counts what answers OK, and of that the five calls alone.
func TestOpsCountsWhatIsDone(t *testing.T) {
	d := disk.New()
	done := 0
	check := func(e, expected api.Errno) {
		t.Helper()
		want(t, e, expected)
		if expected == api.OK {
			done++
		}
		if d.Ops() != done {
			t.Errorf("%d operations, not %d", d.Ops(), done)
		}
	}
	check(d.Append("a", []byte("1")), api.OK)
	check(d.Append("a", nil), api.OK)
	check(d.Append("b", nil), api.OK)
	check(d.Sync("a"), api.OK)
	check(d.Sync("a"), api.OK)
	check(d.Rename("a", "c"), api.OK)
	check(d.Rename("c", "c"), api.OK)
	check(d.Rename("c", "b"), api.OK)
	check(d.SyncDir(), api.OK)
	check(d.SyncDir(), api.OK)
	check(d.Append("", nil), api.ErrDiskName)
	check(d.Append("a", make([]byte, api.MaxFile+1)), api.ErrDiskFull)
	check(d.Sync("a"), api.ErrDiskNone)
	check(d.Sync("?"), api.ErrDiskName)
	check(d.Rename("a", "b"), api.ErrDiskNone)
	check(d.Rename("b", "?"), api.ErrDiskName)
	check(d.Delete("a"), api.ErrDiskNone)
	check(d.Delete("b"), api.OK)

	ok(t, d.Append("z", []byte("z")))
	n := d.Ops()
	ok(t, d.Poke("z", 0, 'y'))
	holds(t, d, "z", "y")
	d.Crash(whole)
	d.CutAt(7)
	d.CutAt(-7)
	if d.Ops() != n {
		t.Errorf("%d operations, not %d", d.Ops(), n)
	}
}

func TestPowerGoesAtAnOperation(t *testing.T) {
	for _, which := range []string{"append", "sync", "rename", "delete", "syncdir"} {
		for _, at := range []int{0, 1, 2, 3} {
			d := disk.New()
			ok(t, d.Append("a", []byte("xy")), d.Append("a", []byte("z")))
			d.CutAt(at)
			for range max(0, at-2) {
				holds(t, d, "a", "xyz")
				ok(t, d.Append("a", nil))
			}
			holds(t, d, "a", "xyz")
			n := d.Ops()
			want(t, fives(d, "a")[which](), api.ErrDiskOff)
			for name, call := range fives(d, "a") {
				if e := call(); e != api.ErrDiskOff {
					t.Errorf("%s behind %s at %d: %v", name, which, at, e)
				}
			}
			b, e := d.Read("a")
			if e != api.ErrDiskOff || len(b) != 0 {
				t.Error(b, e)
			}
			if d.Ops() != n || !slices.Equal(d.Names(), []string{"a"}) {
				t.Error(d.Ops(), d.Names())
			}
			d.CutAt(-1)
			holds(t, d, "a", "xyz")
			ok(t, d.Append("a", []byte("!")))
			holds(t, d, "a", "xyz!")
		}
	}
}

func TestPowerStaysBelowNoughtAndAhead(t *testing.T) {
	for _, at := range []int{-1, -2, math.MinInt, 3, 100, api.MaxOps, math.MaxInt} {
		d := disk.New()
		d.CutAt(at)
		ok(t, d.Append("a", []byte("x")), d.Sync("a"), d.SyncDir())
		holds(t, d, "a", "x")
	}
	d := disk.New()
	d.CutAt(math.MaxInt)
	for range api.MaxOps {
		ok(t, d.Append("a", nil))
	}
	want(t, d.Sync("a"), api.ErrDiskFull)
	d.CutAt(api.MaxOps)
	want(t, d.Sync("a"), api.ErrDiskOff)
}

// A call that the power goes at need not be one that could be done: its arguments make no difference.
func TestPowerGoesWhateverTheArguments(t *testing.T) {
	for name, call := range map[string]func(*disk.Disk) api.Errno{
		"append name": func(d *disk.Disk) api.Errno { return d.Append("a b", nil) },
		"append long": func(d *disk.Disk) api.Errno { return d.Append("a", make([]byte, api.MaxFile)) },
		"sync name":   func(d *disk.Disk) api.Errno { return d.Sync("") },
		"sync none":   func(d *disk.Disk) api.Errno { return d.Sync("q") },
		"rename name": func(d *disk.Disk) api.Errno { return d.Rename("a", "") },
		"rename none": func(d *disk.Disk) api.Errno { return d.Rename("q", "a") },
		"rename self": func(d *disk.Disk) api.Errno { return d.Rename("a", "a") },
		"delete none": func(d *disk.Disk) api.Errno { return d.Delete("q") },
	} {
		d := disk.New()
		ok(t, d.Append("a", []byte("x")))
		d.CutAt(1)
		if e := call(d); e != api.ErrDiskOff {
			t.Errorf("%s: %v", name, e)
		}
		if _, e := d.Read("a"); e != api.ErrDiskOff {
			t.Errorf("%s: the power is there: %v", name, e)
		}
		d.CutAt(2)
		holds(t, d, "a", "x")
		ok(t, d.Append("a", []byte("y")))
		holds(t, d, "a", "xy")
		want(t, d.SyncDir(), api.ErrDiskOff)
	}
}

// Neither a Read, nor a Poke, nor a call that is refused ahead of the operation lets the power go.
func TestPowerGoesAtTheFiveAlone(t *testing.T) {
	d := disk.New()
	ok(t, d.Append("a", []byte("x")))
	d.CutAt(2)
	want(t, d.Sync("q"), api.ErrDiskNone)
	want(t, d.Append("?", nil), api.ErrDiskName)
	ok(t, d.Append("a", []byte("y")))
	for range 3 {
		holds(t, d, "a", "xy")
		_, e := d.Read("q")
		want(t, e, api.ErrDiskNone)
		want(t, d.Poke("a", 0, 'x'), api.OK)
		d.Ops()
		d.Crash(whole)
	}
	want(t, d.SyncDir(), api.ErrDiskOff)
}

func TestCutAtAnewGivesThePowerBack(t *testing.T) {
	d := disk.New()
	d.CutAt(0)
	want(t, d.SyncDir(), api.ErrDiskOff)
	d.CutAt(0)
	if _, e := d.Read("a"); e != api.ErrDiskNone {
		t.Error("the power is not there behind CutAt:", e)
	}
	want(t, d.SyncDir(), api.ErrDiskOff)
	d.CutAt(1)
	ok(t, d.SyncDir())
	want(t, d.SyncDir(), api.ErrDiskOff)
	d.CutAt(-1)
	ok(t, d.SyncDir(), d.SyncDir())
}

// P2.2

// worn is a disk with the one file a, that has borne all operations that a disk bears.
func worn(t *testing.T) *disk.Disk {
	t.Helper()
	d := disk.New()
	ok(t, d.Append("a", []byte("xy")))
	for range api.MaxOps - 1 {
		ok(t, d.Sync("a"))
	}
	return d
}

func TestOrderOfErrors(t *testing.T) {
	long := make([]byte, api.MaxFile+1)
	for _, c := range []struct {
		name string
		call func(*disk.Disk) api.Errno
		// what it answers without power, on a worn disk, and on another one
		off, worn, fresh api.Errno
	}{
		{"append of no name", func(d *disk.Disk) api.Errno { return d.Append("", long) }, api.ErrDiskOff, api.ErrDiskName, api.ErrDiskName},
		{"append to a file", func(d *disk.Disk) api.Errno { return d.Append("a", nil) }, api.ErrDiskOff, api.ErrDiskFull, api.OK},
		{"append to none", func(d *disk.Disk) api.Errno { return d.Append("q", nil) }, api.ErrDiskOff, api.ErrDiskFull, api.OK},
		{"append of too much", func(d *disk.Disk) api.Errno { return d.Append("q", long) }, api.ErrDiskOff, api.ErrDiskFull, api.ErrDiskFull},
		{"read of no name", func(d *disk.Disk) api.Errno { _, e := d.Read("?"); return e }, api.ErrDiskOff, api.ErrDiskName, api.ErrDiskName},
		{"read of none", func(d *disk.Disk) api.Errno { _, e := d.Read("q"); return e }, api.ErrDiskOff, api.ErrDiskNone, api.ErrDiskNone},
		{"read", func(d *disk.Disk) api.Errno { _, e := d.Read("a"); return e }, api.ErrDiskOff, api.OK, api.OK},
		{"sync of no name", func(d *disk.Disk) api.Errno { return d.Sync("a/b") }, api.ErrDiskOff, api.ErrDiskName, api.ErrDiskName},
		{"sync of none", func(d *disk.Disk) api.Errno { return d.Sync("q") }, api.ErrDiskOff, api.ErrDiskNone, api.ErrDiskNone},
		{"sync", func(d *disk.Disk) api.Errno { return d.Sync("a") }, api.ErrDiskOff, api.ErrDiskFull, api.OK},
		{"rename of no name", func(d *disk.Disk) api.Errno { return d.Rename("", "b") }, api.ErrDiskOff, api.ErrDiskName, api.ErrDiskName},
		{"rename to no name", func(d *disk.Disk) api.Errno { return d.Rename("a", "b b") }, api.ErrDiskOff, api.ErrDiskName, api.ErrDiskName},
		{"rename of none to no name", func(d *disk.Disk) api.Errno { return d.Rename("q", "") }, api.ErrDiskOff, api.ErrDiskName, api.ErrDiskName},
		{"rename of none", func(d *disk.Disk) api.Errno { return d.Rename("q", "a") }, api.ErrDiskOff, api.ErrDiskNone, api.ErrDiskNone},
		{"rename of none to itself", func(d *disk.Disk) api.Errno { return d.Rename("q", "q") }, api.ErrDiskOff, api.ErrDiskNone, api.ErrDiskNone},
		{"rename", func(d *disk.Disk) api.Errno { return d.Rename("a", "b") }, api.ErrDiskOff, api.ErrDiskFull, api.OK},
		{"rename to itself", func(d *disk.Disk) api.Errno { return d.Rename("a", "a") }, api.ErrDiskOff, api.ErrDiskFull, api.OK},
		{"delete of no name", func(d *disk.Disk) api.Errno { return d.Delete("ä") }, api.ErrDiskOff, api.ErrDiskName, api.ErrDiskName},
		{"delete of none", func(d *disk.Disk) api.Errno { return d.Delete("q") }, api.ErrDiskOff, api.ErrDiskNone, api.ErrDiskNone},
		{"delete", func(d *disk.Disk) api.Errno { return d.Delete("a") }, api.ErrDiskOff, api.ErrDiskFull, api.OK},
		{"syncdir", func(d *disk.Disk) api.Errno { return d.SyncDir() }, api.ErrDiskOff, api.ErrDiskFull, api.OK},
	} {
		t.Run(c.name, func(t *testing.T) {
			want(t, c.call(nil), api.ErrNil)
			d := worn(t)
			want(t, c.call(d), c.worn)
			if d.Ops() != api.MaxOps {
				t.Error(d.Ops())
			}
			holds(t, d, "a", "xy")
			holds(t, d.Crash(api.Fate{}))
			holds(t, d.Crash(whole), "a", "xy")
			d.CutAt(0)
			d.SyncDir()
			want(t, c.call(d), c.off)
			d = disk.New()
			ok(t, d.Append("a", nil))
			want(t, c.call(d), c.fresh)
		})
	}
}

func TestMaxOps(t *testing.T) {
	d := disk.New()
	ok(t, d.Append("a", []byte("x")))
	for range api.MaxOps - 2 {
		ok(t, d.SyncDir())
	}
	ok(t, d.Append("a", []byte("y")))
	want(t, d.Append("a", []byte("z")), api.ErrDiskFull)
	want(t, d.SyncDir(), api.ErrDiskFull)
	holds(t, d, "a", "xy")
	ok(t, d.Poke("a", 1, 'Y'))
	c := d.Crash(whole)
	holds(t, c, "a", "xY")
	ok(t, c.Append("a", []byte("z")))
	holds(t, c, "a", "xYz")
}

func TestMaxFile(t *testing.T) {
	d := disk.New()
	want(t, d.Append("a", make([]byte, api.MaxFile+1)), api.ErrDiskFull)
	holds(t, d)
	holds(t, d.Crash(whole))
	ok(t, d.Append("a", bytes.Repeat([]byte("x"), api.MaxFile)))
	want(t, d.Append("a", []byte("y")), api.ErrDiskFull)
	ok(t, d.Append("a", nil), d.Sync("a"))
	holds(t, d, "a", strings.Repeat("x", api.MaxFile))

	ok(t, d.Append("b", make([]byte, api.MaxFile-2)))
	want(t, d.Append("b", make([]byte, 3)), api.ErrDiskFull)
	want(t, d.Append("b", make([]byte, api.MaxFile)), api.ErrDiskFull)
	ok(t, d.Append("b", make([]byte, 2)))
	if b, e := d.Read("b"); e != api.OK || len(b) != api.MaxFile {
		t.Error(len(b), e)
	}
	if d.Ops() != 5 {
		t.Error(d.Ops())
	}
}

func TestMaxFiles(t *testing.T) {
	d := disk.New()
	name := func(i int) string { return "f" + strconv.Itoa(i) }
	for i := range api.MaxFiles {
		ok(t, d.Append(name(i), nil))
	}
	want(t, d.Append("one-more", nil), api.ErrDiskFull)
	want(t, d.Append("?", nil), api.ErrDiskName)
	ok(t, d.Append(name(0), []byte("x")), d.Rename(name(1), "other"))
	want(t, d.Append(name(1), nil), api.ErrDiskFull)
	if len(d.Names()) != api.MaxFiles {
		t.Error(d.Names())
	}
	c := d.Crash(whole)
	want(t, c.Append("one-more", nil), api.ErrDiskFull)
	ok(t, d.Rename("other", name(0)), d.Append("one-more", nil))
	want(t, d.Append("two-more", nil), api.ErrDiskFull)
	ok(t, d.Delete("one-more"), d.Append("two-more", nil))
	want(t, d.Append("one-more", nil), api.ErrDiskFull)
}

// P2.3

func TestAppend(t *testing.T) {
	d := disk.New()
	ok(t, d.Append("a", nil))
	holds(t, d, "a", "")
	ok(t, d.Append("a", []byte{}), d.Append("a", []byte("1")), d.Append("b", []byte("2")), d.Append("a", []byte("34")), d.Append("a", []byte("\x00\xff")))
	holds(t, d, "a", "134\x00\xff", "b", "2")
	// The bytes that an Append lays are not synced, whether those ahead of them are or not.
	ok(t, d.Sync("a"), d.SyncDir(), d.Append("a", []byte("!")))
	holds(t, d.Crash(api.Fate{}), "a", "134\x00\xff", "b", "")
	// That a file is made is one directory operation; what goes into it is none.
	ok(t, d.Append("c", []byte("c")), d.Append("c", []byte("c")), d.Append("d", nil))
	holds(t, d.Crash(api.Fate{Keep: 9, Dirs: 1}), "a", "134\x00\xff!", "b", "2", "c", "cc")
	holds(t, d.Crash(api.Fate{Keep: 9, Dirs: 2}), "a", "134\x00\xff!", "b", "2", "c", "cc", "d", "")
}

func TestSyncIsOfOneFile(t *testing.T) {
	d := disk.New()
	ok(t, d.Append("a", []byte("a")), d.Append("b", []byte("b")), d.Sync("a"))
	holds(t, d.Crash(api.Fate{Dirs: 2}), "a", "a", "b", "")
	holds(t, d.Crash(api.Fate{}))
	ok(t, d.SyncDir())
	holds(t, d.Crash(api.Fate{}), "a", "a", "b", "")
}

func TestRename(t *testing.T) {
	d := disk.New()
	ok(t, d.Append("a", []byte("a")), d.Append("b", []byte("b")), d.Append("c", []byte("c")), d.Rename("a", "d"))
	holds(t, d, "b", "b", "c", "c", "d", "a")
	ok(t, d.Rename("b", "c"))
	holds(t, d, "c", "b", "d", "a")
	ok(t, d.Rename("c", "c"))
	holds(t, d, "c", "b", "d", "a")
	// A file stays itself under its new name: what is synced of it, and what is laid behind it.
	ok(t, d.Sync("c"), d.Rename("c", "e"), d.Append("e", []byte("+")))
	holds(t, d, "d", "a", "e", "b+")
	ok(t, d.Append("c", []byte("new")))
	holds(t, d, "c", "new", "d", "a", "e", "b+")
	holds(t, d.Crash(api.Fate{Dirs: 99}), "c", "", "d", "", "e", "b")
}

func TestRenameOntoItselfIsADirectoryOperation(t *testing.T) {
	d := disk.New()
	ok(t, d.Append("a", []byte("x")), d.Sync("a"), d.SyncDir(), d.Rename("a", "a"), d.Rename("a", "b"))
	holds(t, d.Crash(api.Fate{}), "a", "x")
	holds(t, d.Crash(api.Fate{Dirs: 1}), "a", "x")
	holds(t, d.Crash(api.Fate{Dirs: 2}), "b", "x")
}

func TestRenameOntoAnother(t *testing.T) {
	d := disk.New()
	ok(t, d.Append("a", []byte("old")), d.Append("b", []byte("new")), d.Sync("a"), d.SyncDir(), d.Rename("b", "a"))
	holds(t, d, "a", "new")
	holds(t, d.Crash(api.Fate{Keep: 9}), "a", "old", "b", "new")
	holds(t, d.Crash(api.Fate{}), "a", "old", "b", "")
	holds(t, d.Crash(api.Fate{Dirs: 1}), "a", "")
	ok(t, d.Sync("a"))
	holds(t, d.Crash(api.Fate{Dirs: 1}), "a", "new")
	holds(t, d.Crash(api.Fate{}), "a", "old", "b", "new")
	ok(t, d.SyncDir())
	holds(t, d.Crash(api.Fate{}), "a", "new")
}

func TestDelete(t *testing.T) {
	d := disk.New()
	ok(t, d.Append("a", []byte("one")), d.Sync("a"), d.SyncDir(), d.Append("b", nil), d.Delete("a"))
	holds(t, d, "b", "")
	want(t, d.Delete("a"), api.ErrDiskNone)
	_, e := d.Read("a")
	want(t, e, api.ErrDiskNone)
	// Another file under the old name is another one: behind a crash the old one may be back.
	ok(t, d.Append("a", []byte("two")))
	holds(t, d, "a", "two", "b", "")
	holds(t, d.Crash(api.Fate{Keep: 9}), "a", "one")
	holds(t, d.Crash(api.Fate{Keep: 9, Dirs: 1}), "a", "one", "b", "")
	holds(t, d.Crash(api.Fate{Keep: 9, Dirs: 2}), "b", "")
	holds(t, d.Crash(api.Fate{Keep: 9, Dirs: 3}), "a", "two", "b", "")
	ok(t, d.SyncDir())
	holds(t, d.Crash(api.Fate{}), "a", "", "b", "")
}

func TestSyncDirIsOfNamesAlone(t *testing.T) {
	d := disk.New()
	ok(t, d.SyncDir(), d.Append("a", []byte("xy")), d.SyncDir())
	holds(t, d.Crash(api.Fate{}), "a", "")
	holds(t, d.Crash(api.Fate{Keep: 1}), "a", "x")
	ok(t, d.Delete("a"))
	holds(t, d.Crash(api.Fate{Keep: 9}), "a", "xy")
	ok(t, d.SyncDir())
	holds(t, d.Crash(api.Fate{Keep: 9}))
}

// P2.4

func TestCrashKeepsAndTears(t *testing.T) {
	d := disk.New()
	ok(t, d.Append("a", []byte("AB")), d.Sync("a"), d.Append("a", []byte("xyz")), d.SyncDir())
	for _, c := range []struct {
		keep, tear int
		left       string
	}{
		{math.MinInt, 0, "AB"}, {-1, 9, "AB"}, {0, 0, "AB"}, {0, 1, "AB"},
		{1, 0, "ABx"}, {2, 0, "ABxy"}, {3, 0, "ABxyz"}, {4, 0, "ABxyz"}, {math.MaxInt, 0, "ABxyz"},
		{1, 1, "AB\x87"}, {1, 2, "AB\x87"}, {1, math.MaxInt, "AB\x87"},
		{2, -1, "ABxy"}, {2, math.MinInt, "ABxy"}, {2, 1, "ABx\x86"}, {2, 2, "AB\x87\x86"}, {2, 3, "AB\x87\x86"},
		{3, 1, "ABxy\x85"}, {3, 2, "ABx\x86\x85"}, {3, 3, "AB\x87\x86\x85"}, {9, 9, "AB\x87\x86\x85"},
		{math.MaxInt, math.MaxInt, "AB\x87\x86\x85"},
	} {
		holds(t, d.Crash(api.Fate{Keep: c.keep, Tear: c.tear}), "a", c.left)
	}
	holds(t, d, "a", "ABxyz")
}

func TestCrashKeepsOfEachFile(t *testing.T) {
	d := disk.New()
	ok(t, d.Append("a", nil), d.Append("b", []byte("1")), d.Append("c", []byte("123")), d.Append("d", []byte("12")), d.Sync("d"), d.Append("d", []byte("345")))
	holds(t, d.Crash(api.Fate{Keep: 2, Dirs: 4, Tear: 1}), "a", "", "b", "\xce", "c", "1\xcd", "d", "123\xcb")
	holds(t, d.Crash(api.Fate{Keep: 2, Dirs: 3, Tear: 2}), "a", "", "b", "\xce", "c", "\xce\xcd")
}

func TestCrashDoesDirectoryOperationsInOrder(t *testing.T) {
	d := disk.New()
	ok(t, d.Append("a", []byte("1")), d.SyncDir())
	ok(t, d.Append("b", []byte("2")), d.Rename("a", "c"), d.Rename("b", "a"), d.Delete("c"), d.Append("b", []byte("3")), d.Rename("b", "b"), d.Rename("a", "b"))
	for dirs, files := range map[int][]string{
		math.MinInt: {"a", "1"}, -1: {"a", "1"}, 0: {"a", "1"},
		1: {"a", "1", "b", "2"},
		2: {"b", "2", "c", "1"},
		3: {"a", "2", "c", "1"},
		4: {"a", "2"},
		5: {"a", "2", "b", "3"},
		6: {"a", "2", "b", "3"},
		7: {"b", "2"}, 8: {"b", "2"}, math.MaxInt: {"b", "2"},
	} {
		holds(t, d.Crash(api.Fate{Keep: 1, Dirs: dirs}), files...)
	}
	holds(t, d, "b", "2")
}

// A file that is still known by an old name is written on by its new one, and poked, too.
func TestCrashGivesTheFileItselfItsOldName(t *testing.T) {
	d := disk.New()
	ok(t, d.Append("a", []byte("xy")), d.SyncDir(), d.Rename("a", "b"), d.Append("b", []byte("z")), d.Sync("b"), d.Append("b", []byte("!")), d.Poke("b", 0, 'X'))
	holds(t, d.Crash(api.Fate{}), "a", "Xyz")
	holds(t, d.Crash(api.Fate{Keep: 1}), "a", "Xyz!")
	holds(t, d.Crash(api.Fate{Keep: 1, Dirs: 1, Tear: 1}), "b", "Xyz\xde")
}

func TestCrashOfACrash(t *testing.T) {
	d := disk.New()
	ok(t, d.Append("a", []byte("xyz")), d.Append("b", []byte("1")), d.Rename("b", "c"))
	c := d.Crash(api.Fate{Keep: 2, Dirs: 2, Tear: 1})
	// All that stays is synced, the names, too, and the torn bytes stay as they are.
	for _, f := range []api.Fate{{}, {Keep: -1, Dirs: -1, Tear: -1}, {Keep: 9, Dirs: 9, Tear: 9}, whole} {
		holds(t, c.Crash(f), "a", "x\x86", "b", "\xce")
		holds(t, c.Crash(f).Crash(f), "a", "x\x86", "b", "\xce")
	}
	if c.Ops() != 0 {
		t.Error(c.Ops())
	}
	ok(t, c.Append("a", []byte("+")), c.Delete("b"), c.Append("d", []byte("2")))
	if c.Ops() != 3 {
		t.Error(c.Ops())
	}
	holds(t, c.Crash(api.Fate{}), "a", "x\x86", "b", "\xce")
	holds(t, c.Crash(api.Fate{Keep: 1, Dirs: 1, Tear: 9}), "a", "x\x86\xd4")
	holds(t, c.Crash(api.Fate{Keep: 1, Dirs: 2}), "a", "x\x86+", "d", "2")
	holds(t, d, "a", "xyz", "c", "1")
}

func TestCrashGivesThePower(t *testing.T) {
	d := disk.New()
	ok(t, d.Append("a", []byte("x")))
	d.CutAt(1)
	c := d.Crash(whole)
	ok(t, c.Append("a", []byte("y")), c.SyncDir(), c.Sync("a"))
	want(t, d.SyncDir(), api.ErrDiskOff)
	c = d.Crash(whole)
	holds(t, c, "a", "x")
	ok(t, c.Append("a", []byte("y")), c.SyncDir(), c.Sync("a"))
	// The crash has not given the first disk its power back.
	_, e := d.Read("a")
	want(t, e, api.ErrDiskOff)
}

func TestCrashPartsTheDisks(t *testing.T) {
	d := disk.New()
	ok(t, d.Append("a", []byte("xy")), d.Append("b", []byte("1")), d.Sync("a"), d.SyncDir(), d.Append("c", nil))
	c := d.Crash(whole)
	ok(t, c.Append("a", []byte("+")), c.Poke("a", 0, 'X'), c.Sync("b"), c.Delete("b"), c.Rename("c", "d"), c.SyncDir())
	holds(t, d, "a", "xy", "b", "1", "c", "")
	holds(t, d.Crash(api.Fate{}), "a", "xy", "b", "")
	holds(t, c, "a", "Xy+", "d", "")
	ok(t, d.Append("a", []byte("-")), d.Poke("a", 1, 'Y'), d.Delete("c"), d.SyncDir())
	holds(t, c, "a", "Xy+", "d", "")
	holds(t, c.Crash(api.Fate{}), "a", "Xy", "d", "")
	holds(t, d, "a", "xY-", "b", "1")
	if d.Ops() != 8 || c.Ops() != 5 {
		t.Error(d.Ops(), c.Ops())
	}
}

// P2.5

func TestPoke(t *testing.T) {
	d := disk.New()
	ok(t, d.Append("a", []byte("xy")), d.Sync("a"), d.Append("a", []byte("z")), d.Append("b", nil), d.SyncDir())
	for _, c := range []struct {
		name string
		at   int
		e    api.Errno
	}{
		{"", 0, api.ErrDiskName}, {"a b", -1, api.ErrDiskName}, {"q", 0, api.ErrDiskNone}, {"q", -1, api.ErrDiskNone},
		{"a", -1, api.ErrArg}, {"a", math.MinInt, api.ErrArg}, {"a", 3, api.ErrArg}, {"a", math.MaxInt, api.ErrArg},
		{"b", 0, api.ErrArg},
	} {
		want(t, d.Poke(c.name, c.at, '!'), c.e)
	}
	want(t, (*disk.Disk)(nil).Poke("", -1, 0), api.ErrNil)
	holds(t, d, "a", "xyz", "b", "")
	ok(t, d.Poke("a", 0, 'X'), d.Poke("a", 2, 'Z'))
	holds(t, d, "a", "XyZ", "b", "")
	holds(t, d.Crash(api.Fate{}), "a", "Xy", "b", "")
	holds(t, d.Crash(api.Fate{Keep: 1}), "a", "XyZ", "b", "")
	holds(t, d.Crash(api.Fate{Keep: 1, Tear: 9}), "a", "Xy\xa5", "b", "")
	if d.Ops() != 5 {
		t.Error(d.Ops())
	}
}

func TestPokeWithoutPower(t *testing.T) {
	d := disk.New()
	ok(t, d.Append("a", []byte("xy")))
	d.CutAt(0)
	want(t, d.SyncDir(), api.ErrDiskOff)
	ok(t, d.Poke("a", 1, 'Y'))
	want(t, d.Poke("a", 2, 'Y'), api.ErrArg)
	want(t, d.Poke("q", 0, 'Y'), api.ErrDiskNone)
	want(t, d.Poke("?", 0, 'Y'), api.ErrDiskName)
	_, e := d.Read("a")
	want(t, e, api.ErrDiskOff)
	holds(t, d.Crash(whole), "a", "xY")
	d.CutAt(-1)
	holds(t, d, "a", "xY")
}

// P2.6

func TestNilDisk(t *testing.T) {
	var d *disk.Disk
	d.CutAt(0)
	d.CutAt(-1)
	if d.Names() != nil || d.Ops() != 0 || d.Crash(whole) != nil || d.Crash(api.Fate{}) != nil {
		t.Error(d.Names(), d.Ops())
	}
	for name, call := range fives(d, "a") {
		if e := call(); e != api.ErrNil {
			t.Errorf("%s: %v", name, e)
		}
	}
	b, e := d.Read("a")
	if b != nil || e != api.ErrNil {
		t.Error(b, e)
	}
	want(t, d.Poke("a", 0, 0), api.ErrNil)
}

// A disk that no call gave must at least not panic.
func TestZeroDisk(t *testing.T) {
	var d disk.Disk
	holds(t, &d)
	holds(t, d.Crash(whole))
	ok(t, d.SyncDir(), d.Append("a", []byte("x")), d.Rename("a", "b"))
	holds(t, &d, "b", "x")
}

func TestWhatIsHandedInIsNotKept(t *testing.T) {
	d := disk.New()
	room := []byte("0123456789")
	ok(t, d.Append("a", room[2:4]), d.Append("a", room[6:7]))
	if string(room) != "0123456789" {
		t.Errorf("written into: %q", room)
	}
	clear(room)
	holds(t, d, "a", "236")
	holds(t, d.Crash(whole), "a", "236")

	b, _ := d.Read("a")
	ok(t, d.Append("a", b), d.Append("b", b))
	clear(b)
	holds(t, d, "a", "236236", "b", "236")
}

func TestWhatIsAnsweredIsNewMemory(t *testing.T) {
	d := disk.New()
	ok(t, d.Append("a", []byte("one")), d.Append("b", []byte("x")))
	first, _ := d.Read("a")
	second, _ := d.Read("a")
	for _, b := range [][]byte{first, second} {
		clear(b[:cap(b)])
	}
	holds(t, d, "a", "one", "b", "x")
	third, _ := d.Read("a")
	fourth, _ := d.Read("a")
	third = append(third, "?????????"...)
	fourth = append(fourth, "!!!!!!!!!"...)
	if string(third) != "one?????????" || string(fourth) != "one!!!!!!!!!" {
		t.Errorf("%q %q", third, fourth)
	}
	ok(t, d.Append("a", []byte("two")), d.Poke("a", 0, 'O'))
	holds(t, d, "a", "Onetwo", "b", "x")
	if string(third) != "one?????????" || string(fourth) != "one!!!!!!!!!" {
		t.Errorf("%q %q", third, fourth)
	}

	names := d.Names()
	clear(names[:cap(names)])
	if got := d.Names(); !slices.Equal(got, []string{"a", "b"}) {
		t.Errorf("%q", got)
	}
}

// Where an error is answered, there are no bytes beside it.
func TestReadAnswersNothingBesideAnError(t *testing.T) {
	d := disk.New()
	ok(t, d.Append("a", []byte("x")))
	for _, name := range []string{"", "q", "a b"} {
		if b, e := d.Read(name); b != nil || e == api.OK {
			t.Error(name, b, e)
		}
	}
	d.CutAt(0)
	d.SyncDir()
	if b, e := d.Read("a"); b != nil || e != api.ErrDiskOff {
		t.Error(b, e)
	}
}
