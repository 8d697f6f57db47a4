package log_test

import (
	"bytes"
	"math"
	"math/rand/v2"
	"slices"
	"testing"

	"understudy/api"
	"understudy/disk"
	"understudy/log"
	"understudy/record"
)

// Promise P7.2.

// bytesOf is the records' bytes from that place on, one behind the other.
func bytesOf(t *testing.T, at uint64, records ...api.Record) (b []byte) {
	t.Helper()
	for _, r := range records {
		piece, e := record.Bytes(r, at+uint64(len(b)))
		if e != api.OK {
			t.Fatal(e)
		}
		b = append(b, piece...)
	}
	return b
}

func TestExampleOfPower(t *testing.T) {
	d, l := made(t, 9)
	laid(t, l, note(1))
	done(t, l.Flush(l.End()))
	laid(t, l, note(2))
	m := opened(t, d.Crash())
	at(t, m, 27, 27)
	if r, _, e := m.Next(0); e != api.OK || !record.Same(r, note(1)) {
		t.Error(r, e)
	}
}

func TestAppend(t *testing.T) {
	d, l := made(t, 99)
	changes := d.Changes()
	records := []api.Record{note(1), sized(32, 1), sized(1043, 2), {Kind: api.RecImage, Page: 127, Bytes: make([]byte, 1024)}, {Kind: api.RecSwitch, Timeline: 9, Redo: 1 << 62}}
	laid(t, l, records...)
	if b := all(t, l); !bytes.Equal(b, bytesOf(t, 0, records...)) {
		t.Error(len(b))
	}
	at(t, l, 27+32+1043+1053+33, 0)
	if d.Changes() != changes {
		t.Error("the disk is changed ahead of Flush")
	}
}

// TestAppendKeepsNothing of what is handed in.
func TestAppendKeepsNothing(t *testing.T) {
	_, l := made(t, 99)
	r := sized(40, 1)
	l.Append(r)
	r.Bytes[0] = 9
	b := bytesOf(t, 40, sized(50, 3))
	done(t, l.Take(b))
	clear(b)
	if !bytes.Equal(all(t, l), bytesOf(t, 0, sized(40, 1), sized(50, 3))) {
		t.Error("what is handed in is kept")
	}
}

func TestAppendRefused(t *testing.T) {
	d, l := made(t, 99)
	notes(t, l, 2)
	for _, r := range []api.Record{{}, note(0), note(api.MaxXid + 1), {Kind: 9}, {Kind: api.RecImage, Bytes: make([]byte, 1023)}, {Kind: api.RecCommit, Xid: 3, Page: 1}} {
		refused(t, d, l, api.ErrArg, func() api.Errno {
			from, end, e := l.Append(r)
			if from != 0 || end != 0 {
				t.Error(from, end)
			}
			return e
		})
	}
}

func TestTake(t *testing.T) {
	d, l := made(t, 99)
	notes(t, l, 2)
	done(t, l.Take(bytesOf(t, 54, note(3), sized(500, 1), note(4))))
	at(t, l, 608, 54)
	done(t, l.Take(nil), l.Take([]byte{}))
	at(t, l, 608, 54)
	want := bytesOf(t, 0, note(1), note(2), note(3), sized(500, 1), note(4))
	if !bytes.Equal(all(t, l), want) {
		t.Error("what was taken")
	}
	done(t, l.Flush(608))
	if !bytes.Equal(all(t, opened(t, d.Crash())), want) {
		t.Error("what was taken does not last")
	}
}

func TestTakeRefused(t *testing.T) {
	d, l := made(t, 99)
	notes(t, l, 2)
	good := bytesOf(t, 54, note(3), sized(90, 1))
	wrong := [][]byte{
		{1, 2, 3},
		{0},
		make([]byte, 17),
		good[:len(good)-1],
		good[:26],
		good[1:],
		append(slices.Clone(good), 0),
		append(slices.Clone(good), good...),
		bytesOf(t, 53, note(3)),
		bytesOf(t, 55, note(3)),
		bytesOf(t, 0, note(3)),
		bytesOf(t, 81, sized(90, 1)),
		append(bytesOf(t, 54, note(3)), bytesOf(t, 82, note(4))...),
	}
	for i := range good {
		if i >= 4 {
			b := slices.Clone(good)
			b[i] ^= 1
			wrong = append(wrong, b)
		}
	}
	for i, b := range wrong {
		was := slices.Clone(b)
		refused(t, d, l, api.ErrBytes, func() api.Errno { return l.Take(b) })
		if !bytes.Equal(b, was) {
			t.Error("it is changed", i)
		}
	}
	done(t, l.Take(good))
}

// filled is a log with MaxLog less so many bytes, none of which last.
func filled(t *testing.T, capacity, less int) (*disk.Disk, *log.Log) {
	t.Helper()
	d, l := made(t, capacity)
	full := api.Record{Kind: api.RecImage, Bytes: bytes.Repeat([]byte{7}, api.PageSize)}
	for api.MaxLog-int(l.End())-less > 3000 {
		if _, _, e := l.Append(full); e != api.OK {
			t.Fatal(e)
		}
	}
	for rest := api.MaxLog - int(l.End()) - less; rest > 0; rest = api.MaxLog - int(l.End()) - less {
		size := rest
		if rest > 1043 {
			size = min(rest-32, 1043)
		}
		laid(t, l, sized(size, 1))
	}
	return d, l
}

func TestMaxLog(t *testing.T) {
	d, l := filled(t, 99, 59)
	for _, size := range []int{60, 61, 1043} {
		refused(t, d, l, api.ErrFull, func() api.Errno { _, _, e := l.Append(sized(size, 1)); return e })
		refused(t, d, l, api.ErrFull, func() api.Errno { return l.Take(bytesOf(t, l.End(), sized(size, 1))) })
	}
	refused(t, d, l, api.ErrFull, func() api.Errno { return l.Take(bytesOf(t, l.End(), note(1), sized(33, 1))) })
	refused(t, d, l, api.ErrBytes, func() api.Errno { return l.Take(make([]byte, api.MaxLog)) })
	refused(t, d, l, api.ErrArg, func() api.Errno { _, _, e := l.Append(note(0)); return e })
	laid(t, l, note(1))
	at(t, l, api.MaxLog-32, 0)
	done(t, l.Take(bytesOf(t, l.End(), sized(32, 1))))
	at(t, l, api.MaxLog, 0)
	refused(t, d, l, api.ErrFull, func() api.Errno { _, _, e := l.Append(note(1)); return e })
	refused(t, d, l, api.ErrFull, func() api.Errno { return l.Take(bytesOf(t, l.End(), note(1))) })
	done(t, l.Take(nil))
	if _, _, e := l.Next(api.MaxLog); e != api.ErrNone {
		t.Error(e)
	}
	if _, end, e := l.Next(api.MaxLog - 32); e != api.OK || end != api.MaxLog {
		t.Error(end, e)
	}
	refused(t, d, l, api.ErrFull, func() api.Errno { return l.Flush(api.MaxLog) })
}

// TestMaxLogLasts: of MaxLog bytes so many stand in one file as it has sectors, so another timeline takes the rest.
func TestMaxLogLasts(t *testing.T) {
	const file = api.MaxSectors * most
	d, l := filled(t, api.MaxDisk, api.MaxLog-file)
	done(t, l.Flush(1))
	if d.Count("log.1") != api.MaxSectors {
		t.Error(d.Count("log.1"))
	}
	laid(t, l, note(1))
	refused(t, d, l, api.ErrFull, func() api.Errno { return l.Flush(file + 1) })
	l = opened(t, d.Crash())
	at(t, l, file, file)
	d, l = filled(t, api.MaxDisk, api.MaxLog-file)
	done(t, l.Flush(1), l.Branch(2))
	for l.End()+5000 < api.MaxLog {
		laid(t, l, sized(1000, 8))
	}
	done(t, l.Flush(l.End()))
	m := opened(t, d.Crash())
	if m.End() != l.End() {
		t.Error(m.End(), l.End())
	}
}

func TestFlush(t *testing.T) {
	d, l := made(t, 99)
	done(t, l.Flush(0))
	ends := laid(t, l, note(1), note(2), sized(600, 1))
	changes := d.Changes()
	done(t, l.Flush(0))
	if d.Changes() != changes {
		t.Error("what lasts is written")
	}
	refused(t, d, l, api.ErrArg, func() api.Errno { return l.Flush(ends[2] + 1) })
	refused(t, d, l, api.ErrArg, func() api.Errno { return l.Flush(math.MaxUint64) })
	done(t, l.Flush(1)) // all of it, whatever place is asked for
	at(t, l, 654, 654)
	tidy(t, d, 0, all(t, l))
	if d.Changes() != changes+3+1 {
		t.Error(d.Changes() - changes)
	}
	laid(t, l, note(3))
	changes = d.Changes()
	done(t, l.Flush(654), l.Flush(0), l.Flush(653))
	at(t, l, 681, 654)
	if d.Changes() != changes {
		t.Error("what lasts is written")
	}
	done(t, l.Flush(655)) // the last sector alone has bytes from 654 on
	at(t, l, 681, 681)
	if d.Changes() != changes+2 {
		t.Error(d.Changes() - changes)
	}
	tidy(t, d, 0, all(t, l))
	done(t, l.Flush(681))
	refused(t, d, l, api.ErrArg, func() api.Errno { return l.Flush(682) })
	// It ends with a sector: the next byte is another one's.
	laid(t, l, sized(738-681, 4))
	done(t, l.Flush(738))
	laid(t, l, note(4))
	changes = d.Changes()
	done(t, l.Flush(739))
	if d.Changes() != changes+2 || d.Count("log.1") != 4 {
		t.Error(d.Changes()-changes, d.Count("log.1"))
	}
	tidy(t, d, 0, all(t, l))
}

// TestFlushRises: the power goes at each write, which stands there alone, or with those ahead of it.
func TestFlushRises(t *testing.T) {
	for n := range 4 {
		d, l := made(t, 99)
		laid(t, l, sized(600, 1))
		d.Fuse(n)
		refusedDead(t, l, func() api.Errno { return l.Flush(600) })
		if want := min(n+1, 3); d.Count("log.1") != want {
			t.Error(n, d.Count("log.1"))
		}
		refusedDead(t, l, func() api.Errno { return l.Flush(600) })
		refusedDead(t, l, func() api.Errno { return l.SetControl(l.Control()) })
		laid(t, l, note(1))
		done(t, l.Flush(0))
	}
}

// refusedDead wants that for want of power a call changes nothing of the log.
func refusedDead(t *testing.T, l *log.Log, call func() api.Errno) {
	t.Helper()
	c, end, lasts := l.Control(), l.End(), l.Lasts()
	is(t, call(), api.ErrDead)
	if !alike(l.Control(), c) {
		t.Error(l.Control())
	}
	at(t, l, end, lasts)
}

// TestFlushOfAFullDisk: it is full ahead of the first write.
func TestFlushOfAFullDisk(t *testing.T) {
	d, l := made(t, 4) // the control has one of them
	laid(t, l, sized(738, 1), note(1))
	refused(t, d, l, api.ErrFull, func() api.Errno { return l.Flush(1) })
	d.Fuse(0)
	refused(t, d, l, api.ErrFull, func() api.Errno { return l.Flush(1) })
	d, l = made(t, 4)
	laid(t, l, sized(700, 1))
	done(t, l.Flush(1))
	laid(t, l, sized(38, 1))
	done(t, l.Flush(738)) // no new sector
	laid(t, l, note(1))
	refused(t, d, l, api.ErrFull, func() api.Errno { return l.Flush(739) })
	refused(t, d, l, api.ErrArg, func() api.Errno { return l.Flush(766) })
	at(t, opened(t, d.Crash()), 738, 738)
}

// Promise P7.3.

func TestNext(t *testing.T) {
	_, l := made(t, 99)
	records := []api.Record{note(1), sized(300, 2), note(3)}
	ends := laid(t, l, records...)
	for range 2 { // whether it lasts or not
		from := uint64(0)
		for i, r := range records {
			if got, end, e := l.Next(from); e != api.OK || !record.Same(got, r) || end != ends[i] {
				t.Error(got, end, e)
			}
			from = ends[i]
		}
		for at := range ends[2] + 1 {
			if at == 0 || slices.Contains(ends[:2], at) {
				continue
			}
			if r, end, e := l.Next(at); e != api.ErrNone || !record.Same(r, api.Record{}) || end != 0 {
				t.Error(at, r, end, e)
			}
		}
		for _, at := range []uint64{ends[2] + 1, api.MaxLog, 1 << 62, 1<<62 + 1, 1 << 63, math.MaxUint64} {
			if r, end, e := l.Next(at); e != api.ErrArg || !record.Same(r, api.Record{}) || end != 0 {
				t.Error(at, r, end, e)
			}
		}
		done(t, l.Flush(1))
	}
	r, _, _ := l.Next(27)
	r.Bytes[0] = 99
	if r, _, _ := l.Next(27); r.Bytes[0] != 2 {
		t.Error("what is answered is the log's")
	}
}

func TestRaw(t *testing.T) {
	_, l := made(t, 99)
	ends := laid(t, l, note(1), note(2), sized(300, 2), note(3))
	done(t, l.Flush(1))
	laid(t, l, note(4), note(5))
	b := all(t, l)
	for _, x := range []struct {
		from uint64
		most int
		end  uint64 // 0: none
	}{
		{0, 0, 27}, {0, 1, 27}, {0, 26, 27}, {0, 27, 27}, {0, 28, 27}, {0, 53, 27}, {0, 54, 54}, {0, 55, 54}, {0, 353, 54},
		{0, 354, 354}, {0, 380, 354}, {0, 381, 381}, {0, 382, 381}, {0, 1 << 40, 381}, {0, math.MaxInt, 381},
		{27, 0, 54}, {27, 27, 54}, {27, 326, 54}, {27, 327, 354},
		{54, 0, 354}, {54, 299, 354}, {54, 300, 354}, {54, 326, 354}, {54, 327, 381}, {54, math.MaxInt, 381},
		{354, 0, 381}, {354, math.MaxInt, 381},
		{381, 0, 0}, {381, 1000, 0}, {1, 1000, 0}, {26, 1000, 0}, {28, 0, 0}, {53, 1000, 0}, {380, 1000, 0},
	} {
		got, e := l.Raw(x.from, x.most)
		want := b[:0]
		if x.end > 0 {
			want = b[x.from:x.end]
		}
		if e != api.OK || !bytes.Equal(got, want) {
			t.Errorf("Raw(%d, %d): %d bytes, %d", x.from, x.most, len(got), e)
		}
	}
	for _, x := range []struct {
		from uint64
		most int
	}{{382, 100}, {408, 100}, {435, 100}, {math.MaxUint64, 100}, {1 << 63, 0}, {0, -1}, {381, -1}, {0, math.MinInt}, {382, -1}} {
		if got, e := l.Raw(x.from, x.most); e != api.ErrArg || got != nil {
			t.Errorf("Raw(%d, %d): %d bytes, %d", x.from, x.most, len(got), e)
		}
	}
	got, _ := l.Raw(0, 100)
	clear(got[:cap(got)])
	if !bytes.Equal(all(t, l), b) || len(ends) != 4 {
		t.Error("what is answered is the log's")
	}
}

func TestRawOfNothing(t *testing.T) {
	_, l := made(t, 99)
	laid(t, l, note(1))
	if b, e := l.Raw(0, 1000); len(b) != 0 || e != api.OK {
		t.Error("what does not last", b, e)
	}
	if b, e := l.Raw(1, 1000); len(b) != 0 || e != api.ErrArg {
		t.Error(b, e)
	}
}

// TestRawIsTaken: one log takes what another one tells, whatever the pieces are.
func TestRawIsTaken(t *testing.T) {
	rnd := rand.New(rand.NewPCG(7, 3))
	for range 50 {
		_, l := made(t, 999)
		for range 1 + rnd.IntN(40) {
			laid(t, l, sized(32+rnd.IntN(400), byte(rnd.IntN(256))))
		}
		done(t, l.Flush(l.End()))
		_, m := made(t, 999)
		for m.End() < l.End() {
			b, e := l.Raw(m.End(), rnd.IntN(2000))
			if e != api.OK || len(b) == 0 {
				t.Fatal(e)
			}
			done(t, m.Take(b))
		}
		if !bytes.Equal(all(t, m), all(t, l)) {
			t.Error("they differ")
		}
	}
}

// TestNil: of a log that is nil, or a zero one.
func TestNil(t *testing.T) {
	zero := new(log.Log)
	for _, l := range []*log.Log{nil, zero} {
		if from, end, e := l.Append(note(0)); from != 0 || end != 0 || e != api.ErrNil {
			t.Error(from, end, e)
		}
		if r, end, e := l.Next(1); !record.Same(r, api.Record{}) || end != 0 || e != api.ErrNil {
			t.Error(r, end, e)
		}
		if b, e := l.Raw(1, -1); b != nil || e != api.ErrNil {
			t.Error(b, e)
		}
		for i, e := range []api.Errno{l.Take([]byte{1}), l.Take(nil), l.Flush(0), l.Flush(1), l.SetControl(api.Control{}), l.SetControl(api.Control{Path: path(1, 0)}), l.Branch(0), l.Branch(2), l.Cut(0, path(1, 0)), l.Cut(9, nil)} {
			if e != api.ErrNil {
				t.Error(i, e)
			}
		}
		if l.End() != 0 || l.Lasts() != 0 || len(l.Path()) != 0 || !alike(l.Control(), api.Control{}) {
			t.Error("of nil there is something")
		}
	}
}
