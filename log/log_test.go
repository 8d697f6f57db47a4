package log_test

import (
	"bytes"
	"encoding/binary"
	"hash/crc32"
	"slices"
	"strconv"
	"testing"

	"understudy/api"
	"understudy/disk"
	"understudy/log"
	"understudy/record"
)

const most = 246 // bytes of the log in a sector

// note is a record of 27 bytes.
func note(xid uint64) api.Record {
	return api.Record{Kind: api.RecCommit, Xid: xid}
}

// sized is a record of so many bytes, from 32 to 1043.
func sized(size int, fill byte) api.Record {
	return api.Record{Kind: api.RecChange, Page: 7, Off: 12, Bytes: bytes.Repeat([]byte{fill}, size-31)}
}

func newDisk(t *testing.T, capacity int) *disk.Disk {
	t.Helper()
	d, e := disk.New(capacity)
	if e != api.OK {
		t.Fatal(e)
	}
	return d
}

func made(t *testing.T, capacity int) (*disk.Disk, *log.Log) {
	t.Helper()
	d := newDisk(t, capacity)
	l, e := log.Make(d, 0)
	if e != api.OK {
		t.Fatal(e)
	}
	return d, l
}

func opened(t *testing.T, d *disk.Disk) *log.Log {
	t.Helper()
	l, e := log.Open(d)
	if e != api.OK {
		t.Fatal(e)
	}
	return l
}

// laid appends the records, and answers where each ends.
func laid(t *testing.T, l *log.Log, records ...api.Record) (ends []uint64) {
	t.Helper()
	for _, r := range records {
		at := l.End()
		from, end, e := l.Append(r)
		if e != api.OK || from != at || end != l.End() || end != at+uint64(record.Size(r)) {
			t.Fatal(from, end, e)
		}
		ends = append(ends, end)
	}
	return ends
}

// notes lays so many notes, and has them last.
func notes(t *testing.T, l *log.Log, n int) []uint64 {
	t.Helper()
	var ends []uint64
	for i := range n {
		ends = append(ends, laid(t, l, note(uint64(i+1)))...)
	}
	done(t, l.Flush(l.End()))
	return ends
}

func done(t *testing.T, l ...api.Errno) {
	t.Helper()
	for i, e := range l {
		if e != api.OK {
			t.Fatalf("call %d: %v", i, e)
		}
	}
}

func is(t *testing.T, got, want api.Errno) {
	t.Helper()
	if got != want {
		t.Errorf("%d, want %d", got, want)
	}
}

// all is all bytes of a log of which each byte from 0 on stands in a whole record.
func all(t *testing.T, l *log.Log) (b []byte) {
	t.Helper()
	for at := uint64(0); at < l.End(); {
		r, end, e := l.Next(at)
		if e != api.OK {
			t.Fatal(at, e)
		}
		piece, _ := record.Bytes(r, at)
		b, at = append(b, piece...), end
	}
	return b
}

// at is where a log stands.
func at(t *testing.T, l *log.Log, end, lasts uint64) {
	t.Helper()
	if l.End() != end || l.Lasts() != lasts {
		t.Errorf("end %d, lasts %d; want %d, %d", l.End(), l.Lasts(), end, lasts)
	}
}

// refused wants that the call answers that, and changes neither the log nor the disk.
func refused(t *testing.T, d *disk.Disk, l *log.Log, want api.Errno, call func() api.Errno) {
	t.Helper()
	was, changes, c, end, lasts := d.Copy(), d.Changes(), l.Control(), l.End(), l.Lasts()
	is(t, call(), want)
	if !d.Same(was) {
		t.Error("the disk is changed")
	}
	if d.Changes() != changes && want != api.ErrDead {
		t.Error("changes were done")
	}
	if !alike(l.Control(), c) {
		t.Error(l.Control(), c)
	}
	at(t, l, end, lasts)
}

func alike(a, b api.Control) bool {
	return a.Seq == b.Seq && slices.Equal(a.Path, b.Path) && a.Redo == b.Redo && a.Min == b.Min && a.Lost == b.Lost && a.Rank == b.Rank
}

func path(places ...uint64) (p []api.Fork) {
	for i := 0; i < len(places); i += 2 {
		p = append(p, api.Fork{Timeline: places[i], From: places[i+1]})
	}
	return p
}

// piece is a sector of a log's file, in the plainest way.
func piece(place uint64, b []byte) (s api.Sector) {
	binary.BigEndian.PutUint64(s[:], place)
	binary.BigEndian.PutUint16(s[8:], uint16(len(b)))
	copy(s[10:], b)
	return s
}

// wired is what a control's bytes tell, in the plainest way.
type wired struct {
	magic          string
	seq, redo, min uint64
	lost, rank     byte
	forks          byte
	path           []api.Fork
}

func wiredOf(c api.Control) wired {
	w := wired{magic: "understudy", seq: c.Seq, redo: c.Redo, min: c.Min, rank: byte(c.Rank), forks: byte(len(c.Path)), path: c.Path}
	if c.Lost {
		w.lost = 1
	}
	return w
}

func (w wired) bytes() []byte {
	b := []byte(w.magic)
	for _, n := range []uint64{w.seq, w.redo, w.min} {
		b = binary.BigEndian.AppendUint64(b, n)
	}
	b = append(b, w.lost, w.rank, w.forks)
	for _, f := range w.path {
		b = binary.BigEndian.AppendUint32(b, uint32(f.Timeline))
		b = binary.BigEndian.AppendUint64(b, f.From)
	}
	return binary.BigEndian.AppendUint32(b, crc32.Checksum(b, crc32.MakeTable(crc32.Castagnoli)))
}

func (w wired) sector() (s api.Sector) {
	copy(s[:], w.bytes())
	return s
}

func has(t *testing.T, d *disk.Disk, name string, k int, want api.Sector) {
	t.Helper()
	s, e := d.Read(name, k)
	if e != api.OK || s != want {
		t.Errorf("%s %d: %v, want %v; %d", name, k, s, want, e)
	}
	if lasts, _ := d.Lasts(name, k); !lasts {
		t.Errorf("%s %d does not last", name, k)
	}
}

func listed(d *disk.Disk) (s string) {
	for name, count := range d.Files() {
		s += name + " " + strconv.Itoa(count) + ", "
	}
	return s
}

// Promise P7.1.

func TestMake(t *testing.T) {
	for rank := range 2 {
		d := newDisk(t, 9)
		l, e := log.Make(d, rank)
		if e != api.OK {
			t.Fatal(e)
		}
		want := api.Control{Seq: 1, Path: path(1, 0), Rank: rank}
		if !alike(l.Control(), want) || !slices.Equal(l.Path(), want.Path) {
			t.Error(l.Control())
		}
		at(t, l, 0, 0)
		if listed(d) != "control 1, log.1 0, " || d.Count("control") != 2 || d.Changes() != 4 {
			t.Error(listed(d), d.Count("control"), d.Changes())
		}
		has(t, d, "control", 1, wiredOf(want).sector())
		m := opened(t, d.Crash())
		if !alike(m.Control(), want) {
			t.Error(m.Control())
		}
		at(t, m, 0, 0)
	}
}

func TestMakeRefused(t *testing.T) {
	none := func(d *disk.Disk, rank int) api.Errno {
		l, e := log.Make(d, rank)
		if l != nil {
			t.Error("a log beside an error")
		}
		return e
	}
	for _, rank := range []int{-1, 2, 256, 257, -256, 1 << 40} {
		d := newDisk(t, 9)
		is(t, none(d, rank), api.ErrArg)
		if listed(d) != "" || d.Changes() != 0 {
			t.Error(listed(d))
		}
	}
	is(t, none(nil, 0), api.ErrArg)
	is(t, none(new(disk.Disk), 1), api.ErrArg)
	for _, name := range []string{"a", "log.1", "control", "data"} {
		d := newDisk(t, 9)
		done(t, d.Make(name))
		is(t, none(d, 0), api.ErrArg)
		if listed(d) != name+" 0, " {
			t.Error(listed(d))
		}
	}
	d, _ := made(t, 9)
	was := d.Copy()
	is(t, none(d, 0), api.ErrArg)
	if !d.Same(was) {
		t.Error("the log that was there is changed")
	}
}

// TestMakeWithoutPower: at whatever step the power goes, there is no log, or, with the control's sector, the whole one.
func TestMakeWithoutPower(t *testing.T) {
	for n := range 4 {
		d := newDisk(t, 9)
		d.Fuse(n)
		if l, e := log.Make(d, 1); l != nil || e != api.ErrDead {
			t.Error(n, l, e)
		}
		if l, e := log.Open(d.Crash()); l != nil || e != api.ErrCorrupt {
			t.Error(n, e)
		}
		l, e := log.Open(d.Crash(1))
		if n < 2 && e != api.ErrCorrupt || n >= 2 && (e != api.OK || l.Control().Rank != 1) {
			t.Error(n, e)
		}
	}
	for rank, want := range map[int]api.Errno{0: api.ErrDead, 1: api.ErrDead, 2: api.ErrArg, -1: api.ErrArg} {
		if l, e := log.Make(newDeadDisk(t), rank); l != nil || e != want {
			t.Error(rank, e)
		}
	}
}

// newDeadDisk is one without files, and without power.
func newDeadDisk(t *testing.T) *disk.Disk {
	t.Helper()
	d := newDisk(t, 9)
	d.Fuse(0)
	is(t, d.Make("a"), api.ErrDead)
	return d
}

// TestMakeOfOneSector: there is room for the first control; for more there is none.
func TestMakeOfOneSector(t *testing.T) {
	d, l := made(t, 1)
	laid(t, l, note(1))
	refused(t, d, l, api.ErrFull, func() api.Errno { return l.Flush(1) })
	refused(t, d, l, api.ErrFull, func() api.Errno { return l.SetControl(l.Control()) })
}

func TestOpenRefused(t *testing.T) {
	for _, d := range []*disk.Disk{nil, new(disk.Disk)} {
		if l, e := log.Open(d); l != nil || e != api.ErrArg {
			t.Error(e)
		}
	}
	d := newDisk(t, 9)
	corrupt(t, d)
	done(t, d.Make("log.1"))
	corrupt(t, d)
	done(t, d.Make("control"))
	corrupt(t, d)
	corrupt(t, newDeadDisk(t))
}

// corrupt wants that the disk has no log that may be opened, and is left as it is.
func corrupt(t *testing.T, d *disk.Disk) {
	t.Helper()
	was := d.Copy()
	if l, e := log.Open(d); l != nil || e != api.ErrCorrupt {
		t.Error(e)
	}
	if !d.Same(was) || d.Changes() != was.Changes() {
		t.Error("the disk is changed")
	}
}

func TestOpen(t *testing.T) {
	d, l := made(t, 99)
	laid(t, l, note(1), sized(400, 3), note(2))
	done(t, l.Flush(l.End()))
	c := l.Control()
	c.Redo, c.Min, c.Lost, c.Rank = 27, 1<<63, true, 1
	done(t, l.SetControl(c))
	for range 3 {
		m := opened(t, d.Crash())
		if !alike(m.Control(), l.Control()) || !bytes.Equal(all(t, m), all(t, l)) {
			t.Error(m.Control(), m.End())
		}
		at(t, m, 454, 454)
		d, l = d.Crash(), m
	}
}

// TestOpenOfADiskInUse: what another one wrote on it, and did not have last, does.
func TestOpenOfADiskInUse(t *testing.T) {
	d, l := made(t, 99)
	laid(t, l, note(1))
	b := all(t, l)
	done(t, d.Write("log.1", 0, piece(0, b)))
	m := opened(t, d)
	at(t, m, 27, 27)
	has(t, d, "log.1", 0, piece(0, b))
	at(t, opened(t, d.Crash()), 27, 27)
}

func TestOpenWithoutPower(t *testing.T) {
	d, l := made(t, 99)
	notes(t, l, 3)
	d.Fuse(0)
	if m, e := log.Open(d); m != nil || e != api.ErrDead {
		t.Error(e)
	}
	at(t, opened(t, d.Crash()), 81, 81)
	done(t, d.Spoil("control", 1, api.Sector{}))
	corrupt(t, d)
}

// spoilt is what is opened, if one sector of a log of so many notes has other bytes; and its disk.
func spoilt(t *testing.T, n int, name string, k int, s api.Sector) (*log.Log, *disk.Disk) {
	t.Helper()
	d, l := made(t, 99)
	notes(t, l, n)
	done(t, d.Spoil(name, k, s))
	return opened(t, d), d
}

// TestEndOfBytes: as long as a sector bears its place, and is full, they go on.
func TestEndOfBytes(t *testing.T) {
	_, l := made(t, 99)
	notes(t, l, 30) // 810 bytes: 246, 246, 246, 72
	b := all(t, l)
	for _, x := range []struct {
		what  string
		k     int
		s     api.Sector
		wants uint64
	}{
		{"it is the same", 1, piece(246, b[246:492]), 810},
		{"another place", 1, piece(247, b[246:492]), 243},
		{"the place of the next one", 1, piece(492, b[246:492]), 243},
		{"a place far off", 1, piece(246+1<<32, b[246:492]), 243},
		{"no place", 1, piece(0, b[246:492]), 243},
		{"the first one's place is another", 0, piece(1, b[:246]), 0},
		{"fewer bytes, up to a record's end", 1, piece(246, b[246:486]), 486},
		{"fewer bytes, up to one ahead of a record's end", 1, piece(246, b[246:485]), 459},
		{"one byte fewer", 1, piece(246, b[246:491]), 486},
		{"no bytes, though it bears its place", 1, piece(246, nil), 243},
		{"noughts", 1, api.Sector{}, 243},
		{"noughts at first", 0, api.Sector{}, 0},
		{"more bytes than there is room", 1, overfull(246, b[246:492], 247), 243},
		{"far more bytes than there is room", 1, overfull(246, b[246:492], 65535), 243},
		{"the last one is short by one", 3, piece(738, b[738:809]), 783},
		{"the last one has one behind", 3, piece(738, append(slices.Clone(b[738:]), 9)), 810},
		{"a bit is turned in a record that begins here", 1, turned(piece(246, b[246:492]), 10+30), 270},
		{"a bit is turned in a record that begins ahead", 1, turned(piece(246, b[246:492]), 10), 243},
		{"a bit is turned behind the bytes", 3, turned(piece(738, b[738:810]), 255), 810},
	} {
		m, d := spoilt(t, 30, "log.1", x.k, x.s)
		if m.End() != x.wants || m.Lasts() != x.wants || !bytes.Equal(all(t, m), b[:x.wants]) {
			t.Errorf("%s: %d, want %d", x.what, m.End(), x.wants)
		}
		tidy(t, d, 0, b[:x.wants])
		at(t, opened(t, d.Crash()), x.wants, x.wants)
	}
}

func overfull(place uint64, b []byte, count uint16) api.Sector {
	s := piece(place, b)
	binary.BigEndian.PutUint16(s[8:], count)
	return s
}

func turned(s api.Sector, i int) api.Sector {
	s[i] ^= 4
	return s
}

// tidy wants that log.1, which begins at from, has these bytes, and noughts behind them.
func tidy(t *testing.T, d *disk.Disk, from uint64, b []byte) {
	t.Helper()
	for k := range d.Count("log.1") {
		var want api.Sector
		if i := k * most; i < len(b) {
			want = piece(from+uint64(i), b[i:min(i+most, len(b))])
		}
		has(t, d, "log.1", k, want)
	}
}

// TestEndsAboutASector: a record ends at the last byte of a sector, one ahead of it, one behind.
func TestEndsAboutASector(t *testing.T) {
	for _, size := range []int{245, 246, 247, 491, 492, 493, 32, 1000} {
		d, l := made(t, 99)
		laid(t, l, sized(size, 5))
		done(t, l.Flush(1))
		b := all(t, l)
		tidy(t, d, 0, b)
		if n := (size + most - 1) / most; d.Count("log.1") != n {
			t.Error(d.Count("log.1"), n)
		}
		laid(t, l, note(9))
		done(t, l.Flush(l.End()))
		b = all(t, l)
		tidy(t, d, 0, b)
		m := opened(t, d.Crash())
		if !bytes.Equal(all(t, m), b) {
			t.Error(size, m.End())
		}
		// Of the note nothing, or the first bytes, or all but the last one are there.
		for _, cut := range []int{size, size + 1, size + 13, size + 26} {
			c := d.Crash()
			for k := range c.Count("log.1") {
				var s api.Sector
				if k*most < cut {
					s = piece(uint64(k*most), b[k*most:min(k*most+most, cut)])
				}
				done(t, c.Spoil("log.1", k, s))
			}
			m := opened(t, c)
			at(t, m, uint64(size), uint64(size))
			tidy(t, c, 0, b[:size])
		}
	}
}

// TestOpenWritesWhatIsOther: each sector that is as it should be is left alone; the file is synced in any case.
func TestOpenWritesWhatIsOther(t *testing.T) {
	d, l := made(t, 99)
	notes(t, l, 30)
	changes := func(k int, s api.Sector) int {
		c := d.Crash()
		if k >= 0 {
			done(t, c.Spoil("log.1", k, s))
		}
		opened(t, c)
		return c.Changes()
	}
	b := all(t, l)
	for _, x := range []struct {
		k    int
		s    api.Sector
		want int
	}{
		{-1, api.Sector{}, 1},
		{3, piece(738, b[738:810]), 1},
		{3, piece(738, append(slices.Clone(b[738:]), 0)), 2},
		{2, api.Sector{}, 3}, // the one with 240 of its 246 bytes, and the last one
		{1, api.Sector{}, 4}, // the first one, and two behind it
		{0, api.Sector{}, 4}, // three behind it
		{9, api.Sector{1}, 2},
		{9, api.Sector{}, 1},
		{2, piece(492, b[492:729]), 2}, // the last one
		{2, piece(492, b[492:728]), 3},
	} {
		if n := changes(x.k, x.s); n != x.want {
			t.Errorf("%d: %d changes, want %d", x.k, n, x.want)
		}
	}
}

// TestFromRedoOn: whatever stands ahead of Redo isn't asked.
func TestFromRedoOn(t *testing.T) {
	d, l := made(t, 99)
	notes(t, l, 30)
	b := all(t, l)
	broken := turned(piece(0, b[:246]), 10)
	for redo, want := range map[uint64]uint64{0: 0, 27: 810, 26: 26, 28: 28, 243: 810, 244: 244, 810: 810, 809: 809} {
		c := d.Crash()
		m := opened(t, c)
		ctl := m.Control()
		ctl.Redo = redo
		done(t, m.SetControl(ctl), c.Spoil("log.1", 0, broken))
		m = opened(t, c)
		at(t, m, want, want)
		at(t, opened(t, c.Crash()), want, want)
		want := piece(0, b[:min(want, most)])
		if redo > 0 {
			want[10] ^= 4
		} else {
			want = api.Sector{}
		}
		has(t, c, "log.1", 0, want)
	}
}

// TestRedoAboveTheBytes is corrupt; at their end it isn't.
func TestRedoAboveTheBytes(t *testing.T) {
	for redo, ok := range map[uint64]bool{81: true, 82: false, 1 << 62: false, 1 << 63: false, 1<<64 - 1: false} {
		d, l := made(t, 99)
		notes(t, l, 3)
		c := l.Control()
		c.Seq, c.Redo = 2, redo
		done(t, d.Spoil("control", 0, wiredOf(c).sector()))
		if ok {
			at(t, opened(t, d), 81, 81)
			continue
		}
		corrupt(t, d)
	}
}
