package engine_test

import (
	"fmt"
	"testing"

	"kindred/api"
	"kindred/disk"
)

// imageOf is a store as the power cuts' is, all of it durable.
func imageOf(t *testing.T, o api.Opts) string {
	b := bothOn(t, "a store", 1<<20)
	stores(b, o)
	b.sync()
	return b.d.Image()
}

// full is a store on disks that have room for so many bytes and files more.
func full(t *testing.T, where, image string, room, files int) *both {
	t.Helper()
	used, _ := disk.Open(image, 1<<20)
	b := bothOf(t, where, image, used.Used()+room)
	b.disks(func(d *disk.Disk) {
		for i := len(used.Names()); i < 4096-files; i++ {
			d.Create(fmt.Sprint("filler", i))
		}
	})
	b.quiet = true
	answers(t, "17.13: Open needs no room", b.open(), api.OK)
	b.quiet = files < 4000 // there are many files then
	return b
}

// wants are the calls that want room.
func wants() map[string]func(b *both) (bool, api.Errno) {
	return map[string]func(b *both) (bool, api.Errno){
		"Insert":      func(b *both) (bool, api.Errno) { return true, b.insert(4, z(7)) },
		"Delete":      func(b *both) (bool, api.Errno) { return true, b.delete(7) },
		"CompactStep": func(b *both) (bool, api.Errno) { return b.step() },
	}
}

// TestFullDisk: every room from none to enough. A call that finds none leaves M as it was, and the questions go on; so does an Open.
func TestFullDisk(t *testing.T) {
	for _, o := range []api.Opts{two, treed} {
		image := imageOf(t, o)
		for name, call := range wants() {
			for room := 0; ; room++ {
				b := full(t, fmt.Sprintf("%s of mode %d, room %d", name, o.Mode, room), image, room, 4096)
				if fits(b, call, api.ErrFull) {
					break
				}
			}
		}
	}
}

// TestManyFiles: the disk takes a few more files alone.
func TestManyFiles(t *testing.T) {
	for _, o := range []api.Opts{two, treed} {
		image := imageOf(t, o)
		for files := 0; ; files++ {
			b := full(t, fmt.Sprintf("CompactStep of mode %d, %d more files", o.Mode, files), image, 99999, files)
			if fits(b, wants()["CompactStep"], api.ErrMany) {
				break
			}
		}
	}
}

// fits makes the call until it is done or refused for want of room: it was not refused.
func fits(b *both, call func(b *both) (bool, api.Errno), want api.Errno) bool {
	b.t.Helper()
	seq := b.e.Seq()
	for {
		was := fmt.Sprint(b.list())
		done, e := call(b)
		if done && e == api.OK {
			return true
		}
		if e == api.OK {
			continue
		}
		answers(b.t, "17.13: "+b.where, e, want)
		b.agree("a call that has found no room")
		if fmt.Sprint(b.list()) != was || b.e.Seq() != seq {
			b.t.Fatalf("17.13: %s: M has changed", b.where)
		}
		b.must("Sync", b.sync())
		b.must("Close", b.close())
		b.must("Open", b.open())
		b.agree("Open")
		return false
	}
}

// TestCreateWithoutRoom: there is no store then, and none of its files.
func TestCreateWithoutRoom(t *testing.T) {
	for room := 0; ; room++ {
		b := bothOn(t, fmt.Sprint("room ", room), room)
		e := b.create(two)
		if e == api.OK {
			return
		}
		answers(t, "17.13: Create, "+b.where, e, api.ErrFull)
		if len(b.d.Names()) != 0 {
			t.Fatalf("17.13: %s: %q", b.where, b.d.Names())
		}
		answers(t, "17.1: Open, "+b.where, b.open(), api.ErrNone)
	}
}

// TestGreaterDisk: what was full goes on, on a greater disk.
func TestGreaterDisk(t *testing.T) {
	for _, o := range []api.Opts{two, treed} {
		b := full(t, fmt.Sprint("a greater disk, mode ", o.Mode), imageOf(t, o), 60, 4096)
		e := api.OK
		for id := 20; e == api.OK; id++ {
			e = b.insert(id, z(byte(id)))
		}
		answers(t, "17.13", e, api.ErrFull)
		b.must("Sync", b.sync())
		pairs := fmt.Sprint(b.list())
		b = bothOf(t, b.where, b.d.Image(), 1<<20)
		b.must("Open", b.open())
		if fmt.Sprint(b.list()) != pairs {
			t.Fatalf("17.13: %s: other pairs", b.where)
		}
		b.toTheEnd()
	}
}
