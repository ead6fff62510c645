package pairs_test

import (
	"reflect"
	"slices"
	"testing"

	"varve/api"
	"varve/disk"
	"varve/frame"
	"varve/pairs"
	"varve/record"
)

// The layers ckpt and merge test all of this by their own promises; here stands what each call is for.

var (
	second   = api.Pair{Number: 4, From: 9, To: 12}
	manifest = api.Manifest{Time: 12, Log: 2, Pairs: []api.Pair{{Number: 7, From: 0, To: 9}, second}}
	content  = pairs.Content{
		Rows: []api.Row{{Key: "a", Val: "x", Time: 10}, {Key: "b", Time: 12}},
		Gone: []api.Gone{{Key: "a", Time: 3}, {Key: "a", Time: 9}, {Key: "c", Time: 0}},
	}
)

// write writes content on a disk, as the pair second of manifest.
func write(t *testing.T, d *disk.Disk) pairs.Writer {
	t.Helper()
	f, ok := pairs.Put(second, content)
	if !ok {
		t.Fatal("Put refuses what may be")
	}
	w, ok := pairs.NewWriter(d, manifest, f)
	if !ok || d.Ops() != 0 {
		t.Fatal("NewWriter refuses a right manifest, or has done something")
	}
	for range 8 {
		if done, e := w.Next(); done || e != api.OK {
			t.Fatal(done, e)
		}
	}
	for range 3 {
		if done, e := w.Next(); !done || e != api.OK || d.Ops() != 9 {
			t.Fatal(done, e, d.Ops())
		}
	}
	return w
}

func TestWriteAndRead(t *testing.T) {
	d := disk.New()
	write(t, d)
	if got, ok := pairs.Read(d.Crash(api.Fate{}), second); !ok || !reflect.DeepEqual(got, content) {
		t.Errorf("Read: %v, %v", got, ok)
	}
	if names := d.Names(); !slices.Equal(names, []string{"data-4", "delta-4", "manifest"}) {
		t.Error(names)
	}
	b, _ := d.Read(pairs.ManifestName)
	seq, body, end, ok := frame.Take(b, 0)
	if m, _, e := record.Manifest(body); !ok || seq != 0 || end != len(b) || e != api.OK || !reflect.DeepEqual(m, manifest) {
		t.Errorf("the manifest: %v, %v", m, e)
	}
	for _, p := range []api.Pair{{Number: 5, From: 9, To: 12}, {Number: 4, From: 8, To: 12}, {Number: 4, From: 9, To: 13}} {
		if got, ok := pairs.Read(d, p); ok || len(got.Rows)+len(got.Gone) > 0 {
			t.Errorf("Read of %v: %v", p, got)
		}
	}
	for _, name := range []string{pairs.DataName(4), pairs.DeltaName(4)} {
		bad := d.Crash(api.Fate{})
		bad.Poke(name, 20, 0)
		if got, ok := pairs.Read(bad, second); ok || len(got.Rows)+len(got.Gone) > 0 {
			t.Errorf("Read of a %s that is another one: %v", name, got)
		}
		bad.Delete(name)
		if _, ok := pairs.Read(bad, second); ok {
			t.Errorf("Read without %s", name)
		}
	}
}

func TestPutRefuses(t *testing.T) {
	for _, c := range []pairs.Content{
		{Rows: []api.Row{{Key: "a", Time: 9}}},
		{Rows: []api.Row{{Key: "a", Time: 13}}},
		{Rows: []api.Row{{Key: "", Time: 10}}},
		{Rows: []api.Row{{Key: "a", Time: 10}, {Key: "a", Time: 11}}},
		{Rows: make([]api.Row, api.MaxRows+1)},
		{Gone: []api.Gone{{Key: "a", Time: 10}}},
		{Gone: []api.Gone{{Key: "a", Time: -1}}},
		{Gone: []api.Gone{{Key: "a", Time: 1}, {Key: "a", Time: 1}}},
		{Gone: make([]api.Gone, api.MaxRows+1)},
	} {
		if f, ok := pairs.Put(second, c); ok || !reflect.DeepEqual(f, pairs.Files{}) {
			t.Errorf("Put takes %v", c)
		}
	}
}

func TestManifests(t *testing.T) {
	d := disk.New()
	w := write(t, d)
	made := w.Made()
	if !reflect.DeepEqual(made, manifest) {
		t.Errorf("Made: %v", made)
	}
	made.Pairs[0].Number = 77
	if !reflect.DeepEqual(w.Made(), manifest) {
		t.Error("Made answers what the writer keeps")
	}
	wrong := api.Manifest{Time: 12, Log: 2}
	if _, ok := pairs.NewWriter(d, wrong, pairs.Files{}); ok || pairs.IsRight(wrong) || !pairs.IsRight(manifest) {
		t.Error("a manifest that is not right, or one that is")
	}
	for want, m := range map[int]api.Manifest{1: {Log: 1}, 8: manifest, 5: {Pairs: []api.Pair{second}}} {
		if n := pairs.NewNumber(m); n != want {
			t.Errorf("NewNumber(%v): %d", m, n)
		}
	}
}

func TestErrorStays(t *testing.T) {
	d := disk.New()
	f, _ := pairs.Put(second, content)
	w, _ := pairs.NewWriter(d, manifest, f)
	d.CutAt(1)
	if done, e := w.Next(); done || e != api.OK {
		t.Fatal(done, e)
	}
	for i := range 3 {
		if done, e := w.Next(); done || e != api.ErrDiskOff {
			t.Fatal(i, done, e)
		}
		d.CutAt(-1)
	}
	if d.Ops() != 1 {
		t.Error(d.Ops())
	}
}
