package log_test

import (
	"bytes"
	"encoding/binary"
	"math/rand/v2"
	"slices"
	"testing"

	"understudy/api"
	"understudy/disk"
	"understudy/log"
	"understudy/record"
)

// Promise P7.6, P0.3 as far as the log bears on it, and P0.6 of any disk.

// plain is a log in the plainest way.
type plain struct {
	control api.Control
	b       []byte
}

// plainControl is the control that a sector has.
func plainControl(s api.Sector, k int) (c api.Control, ok bool) {
	n := min(int(s[36]), 17)
	c = api.Control{Seq: binary.BigEndian.Uint64(s[10:]), Redo: binary.BigEndian.Uint64(s[18:]), Min: binary.BigEndian.Uint64(s[26:]), Lost: s[34] == 1, Rank: int(s[35])}
	for i := range n {
		c.Path = append(c.Path, api.Fork{Timeline: uint64(binary.BigEndian.Uint32(s[37+12*i:])), From: binary.BigEndian.Uint64(s[41+12*i:])})
	}
	return c, plainPath(c.Path) && c.Rank < 2 && wiredOf(c).sector() == s && c.Seq%2 == uint64(k)
}

func plainPath(p []api.Fork) bool {
	for i, f := range p {
		for _, g := range p[:i] {
			if f.Timeline == g.Timeline || f.From < g.From {
				return false
			}
		}
		if f.Timeline < 1 || f.Timeline >= 1<<31 || f.From > 1<<62 {
			return false
		}
	}
	return len(p) > 0 && len(p) <= 16 && p[0] == api.Fork{Timeline: 1}
}

// plainBytes is the bytes of a fork's file, as far as they go on.
func plainBytes(d *disk.Disk, f api.Fork) (b []byte) {
	for k := 0; ; k++ {
		s, e := d.Read(fileOf(f.Timeline), k)
		n := int(binary.BigEndian.Uint16(s[8:]))
		if e != api.OK || binary.BigEndian.Uint64(s[:]) != f.From+246*uint64(k) || n > 246 {
			return b
		}
		b = append(b, s[10:10+n]...)
		if n < 246 {
			return b
		}
	}
}

// plainOpen is what is to be opened, and what is then on the disk.
func plainOpen(d *disk.Disk) (p plain, behind *disk.Disk, ok bool) {
	even, _ := d.Read("control", 0)
	odd, _ := d.Read("control", 1)
	a, aok := plainControl(even, 0)
	b, bok := plainControl(odd, 1)
	switch {
	case !aok && !bok:
		return plain{}, nil, false
	case !aok || bok && b.Seq > a.Seq:
		a = b
	}
	p.control = a
	for i, f := range a.Path {
		bytes := plainBytes(d, f)
		if !d.Has(fileOf(f.Timeline)) || i+1 < len(a.Path) && uint64(len(bytes)) < a.Path[i+1].From-f.From {
			return plain{}, nil, false
		}
		if i+1 < len(a.Path) {
			bytes = bytes[:a.Path[i+1].From-f.From]
		}
		p.b = append(p.b, bytes...)
	}
	if a.Redo > uint64(len(p.b)) {
		return plain{}, nil, false
	}
	end := int(a.Redo)
	for {
		_, n, e := record.Of(p.b[end:], uint64(end))
		if e != api.OK {
			break
		}
		end += n
	}
	p.b = p.b[:end]
	return p, plainTrim(d, p), true
}

// plainTrim is the disk with noughts behind the log's end.
func plainTrim(d *disk.Disk, p plain) *disk.Disk {
	d = d.Copy()
	f := p.control.Path[len(p.control.Path)-1]
	for k := range d.Count(fileOf(f.Timeline)) {
		place := f.From + 246*uint64(k)
		if place+246 <= uint64(len(p.b)) {
			continue
		}
		var want api.Sector
		if place < uint64(len(p.b)) {
			want = piece(place, p.b[place:])
		}
		if s, _ := d.Read(fileOf(f.Timeline), k); s != want {
			d.Write(fileOf(f.Timeline), k, want)
		}
	}
	d.Sync(fileOf(f.Timeline))
	return d
}

// sameBytes wants that the log has these bytes, as far as they are records.
func sameBytes(t *testing.T, l *log.Log, b []byte) {
	t.Helper()
	for at := 0; at < len(b); {
		want, n, e := record.Of(b[at:], uint64(at))
		got, end, f := l.Next(uint64(at))
		if (e == api.OK) != (f == api.OK) || e == api.OK && (!record.Same(got, want) || end != uint64(at+n)) {
			t.Fatal(at, got, end, f)
		}
		at += max(n, 1)
	}
}

// opensPlainly wants that what is opened, and what it makes of the disk, is as the plain one says.
func opensPlainly(t *testing.T, d *disk.Disk) (*log.Log, bool) {
	t.Helper()
	p, behind, ok := plainOpen(d)
	was := d.Copy()
	l, e := log.Open(d)
	if !ok {
		if e != api.ErrCorrupt || l != nil || !d.Same(was) {
			t.Fatal(e)
		}
		return nil, false
	}
	if e != api.OK || !alike(l.Control(), p.control) || l.End() != uint64(len(p.b)) || l.Lasts() != l.End() {
		t.Fatal(e, l.Control(), p.control, l.End(), len(p.b))
	}
	if !d.Same(behind) || d.Changes() != behind.Changes() {
		t.Fatal("the disk is not as it should be")
	}
	sameBytes(t, l, p.b)
	return l, true
}

// state is what a log has.
type state struct {
	c api.Control
	b []byte
}

// steps calls look for each step at which the power may go in what is done to a log, and each way in which what was written then lasts, or not.
func steps(t *testing.T, build func(t *testing.T) (*disk.Disk, *log.Log), do func(l *log.Log) api.Errno, look func(n int, e api.Errno, was state, m *log.Log)) {
	t.Helper()
	for n := 0; ; n++ {
		d, l := build(t)
		was := state{l.Control(), all(t, l)}
		d.Fuse(n)
		e := do(l)
		if e != api.OK && e != api.ErrDead {
			t.Fatal(n, e)
		}
		for i := range 243 {
			m, ok := opensPlainly(t, d.Crash(i%3, i/3%3, i/9%3, i/27%3, i/81))
			if !ok {
				t.Fatal(n, i, "it is corrupt")
			}
			end := m.End()
			look(n, e, was, m)
			twice, ok := opensPlainly(t, d.Crash(i%3, i/3%3, i/9%3, i/27%3, i/81).Crash())
			if !ok || twice.End() != end {
				t.Fatal(n, i)
			}
		}
		if e == api.OK {
			return
		}
	}
}

func TestPowerGoesInAppend(t *testing.T) {
	build := func(t *testing.T) (*disk.Disk, *log.Log) {
		d, l := made(t, 99)
		notes(t, l, 12)
		return d, l
	}
	steps(t, build, func(l *log.Log) api.Errno {
		_, _, e := l.Append(sized(700, 1))
		return max(e, l.Take(bytesOf(t, l.End(), note(1), note(2))))
	}, func(n int, e api.Errno, was state, m *log.Log) {
		if e != api.OK || n != 0 || !bytes.Equal(all(t, m), was.b) || !alike(m.Control(), was.c) {
			t.Fatal("appending is no change of the disk", n, e)
		}
	})
}

func TestPowerGoesInFlush(t *testing.T) {
	for _, timeline := range []uint64{0, 2} {
		var whole []byte
		build := func(t *testing.T) (*disk.Disk, *log.Log) {
			d, l := made(t, 99)
			notes(t, l, 12)
			if timeline > 0 {
				done(t, l.Branch(timeline))
				notes(t, l, 1)
			}
			laid(t, l, note(1), sized(100, 2), sized(300, 3), note(4))
			whole = all(t, l)
			return d, l
		}
		lasted := 324 + 27*int(timeline/2)
		steps(t, build, func(l *log.Log) api.Errno { return l.Flush(l.End()) }, func(n int, e api.Errno, was state, m *log.Log) {
			b := all(t, m)
			if !alike(m.Control(), was.c) || !bytes.HasPrefix(whole, b) || len(b) < lasted || e == api.OK && len(b) < len(whole) {
				t.Fatal(n, e, len(b))
			}
		})
	}
}

func TestPowerGoesInSetControl(t *testing.T) {
	want := api.Control{Seq: 5, Path: path(1, 0, 2, 270, 3, 540), Redo: 810, Min: 7, Lost: true}
	steps(t, forked, func(l *log.Log) api.Errno { return l.SetControl(want) }, func(n int, e api.Errno, was state, m *log.Log) {
		isNew := alike(m.Control(), want)
		if !isNew && (e == api.OK || !alike(m.Control(), was.c)) || !bytes.Equal(all(t, m), was.b) {
			t.Fatal(n, e, m.Control())
		}
	})
}

func TestPowerGoesInBranch(t *testing.T) {
	for _, elder := range []bool{false, true} {
		build := func(t *testing.T) (*disk.Disk, *log.Log) {
			d, l := forked(t)
			if elder { // what is in it would go on where the new one begins
				done(t, d.Make("log.9"), d.Write("log.9", 0, piece(810, bytesOf(t, 810, note(3)))), d.Sync("log.9"))
			}
			return d, l
		}
		steps(t, build, func(l *log.Log) api.Errno { return l.Branch(9) }, func(n int, e api.Errno, was state, m *log.Log) {
			want := was.c
			want.Seq, want.Path = 5, path(1, 0, 2, 270, 3, 540, 9, 810)
			isNew := alike(m.Control(), want)
			if !isNew && (e == api.OK || !alike(m.Control(), was.c)) || !bytes.Equal(all(t, m), was.b) {
				t.Fatal(n, e, m.Control())
			}
		})
	}
}

func TestPowerGoesInCut(t *testing.T) {
	build := func(t *testing.T) (*disk.Disk, *log.Log) {
		d, l := forked(t)
		done(t, l.Cut(783, l.Path()), d.Make("log.5"), d.Write("log.5", 0, piece(540, bytesOf(t, 540, note(99)))), d.Sync("log.5"))
		return d, l
	}
	for _, x := range []struct {
		at uint64
		p  []api.Fork
	}{
		{783, path(1, 0, 2, 270, 3, 540)},
		{567, path(1, 0, 2, 270, 3, 540)},
		{540, path(1, 0, 2, 270, 3, 540)},
		{540, path(1, 0, 2, 270)},
		{297, path(1, 0, 2, 270)},
		{27, path(1, 0)},
		{540, path(1, 0, 2, 270, 5, 540)},
		{540, path(1, 0, 2, 270, 5, 540, 6, 540)},
		{270, path(1, 0, 6, 270)},
		{135, path(1, 0, 3, 135, 2, 135)},
	} {
		steps(t, build, func(l *log.Log) api.Errno { return l.Cut(x.at, x.p) }, func(n int, e api.Errno, was state, m *log.Log) {
			b := all(t, m)
			want := was.c
			want.Seq, want.Path, want.Lost, want.Redo = 6, x.p, true, min(540, x.at)
			switch {
			case alike(m.Control(), want):
				// Done in part, it has more than it should; but nothing that is new.
				if !bytes.HasPrefix(was.b, b) || len(b) < int(x.at) || e == api.OK && len(b) > int(x.at) {
					t.Fatal(n, e, len(b))
				}
			case e == api.OK || !alike(m.Control(), was.c) || !bytes.Equal(b, was.b):
				t.Fatal(n, e, m.Control(), len(b))
			}
			again(t, m, x.at, x.p, b)
		})
	}
}

// TestPowerGoesInOpen: what is opened then ends where it would have.
func TestPowerGoesInOpen(t *testing.T) {
	build := func() *disk.Disk {
		d, l := made(t, 99)
		notes(t, l, 12)
		laid(t, l, note(1), sized(600, 2), note(4), sized(500, 5))
		done(t, l.Flush(l.End()))
		return d.Crash()
	}
	_, l := made(t, 99)
	notes(t, l, 12)
	laid(t, l, note(1))
	b := all(t, l)
	for n := range 7 {
		for i := range 243 {
			d := build()
			done(t, d.Spoil("log.1", 2, api.Sector{})) // torn there: what stands behind is in one sector ahead, and four behind
			d.Fuse(n)
			m, e := log.Open(d)
			if n == 6 && (e != api.OK || m.End() != 351) || n < 6 && (e != api.ErrDead || m != nil) {
				t.Fatal(n, e)
			}
			m, ok := opensPlainly(t, d.Crash(i%3, i/3%3, i/9%3, i/27%3, i/81))
			if !ok || !bytes.Equal(all(t, m), b) {
				t.Fatal(n, i, ok)
			}
		}
	}
}

// again wants that what was cut in part can be cut again, and is then as it should be.
func again(t *testing.T, m *log.Log, place uint64, p []api.Fork, b []byte) {
	t.Helper()
	if e := m.Cut(place, p); e != api.OK {
		t.Fatal(e)
	}
	if !bytes.Equal(all(t, m), b[:place]) || !slices.Equal(m.Path(), p) {
		t.Fatal(m.Path(), m.End())
	}
}

// game is a log that is used in any way, and what it has to have.
type game struct {
	t     *testing.T
	rnd   *rand.Rand
	d     *disk.Disk
	l     *log.Log
	b     []byte // all that was appended
	lasts int
	c     api.Control
	count uint32
}

func (g *game) record() api.Record {
	g.count++
	size := 35 + g.rnd.IntN(40)
	if g.rnd.IntN(5) == 0 {
		size = 35 + g.rnd.IntN(700)
	}
	r := sized(size, 0)
	binary.BigEndian.PutUint32(r.Bytes, g.count)
	return r
}

// ends is a place behind one of the records.
func (g *game) ends(upto uint64) uint64 {
	l := []uint64{0}
	for end := range record.All(g.b[:upto], 0) {
		l = append(l, end)
	}
	return l[g.rnd.IntN(len(l))]
}

// otherPath is a path that may be cut to at that place, more or less.
func (g *game) otherPath(place uint64) (p []api.Fork) {
	for _, f := range g.c.Path {
		if f.From <= place {
			p = append(p, f)
		}
	}
	if len(p) > 1 && g.rnd.IntN(3) == 0 && p[len(p)-1].From == place {
		p = p[:len(p)-1]
	}
	for range g.rnd.IntN(3) {
		p = append(p, api.Fork{Timeline: 1 + g.rnd.Uint64N(9), From: place})
	}
	return p
}

// step does something, and answers what it was refused for, and what the log may be behind a loss of power ahead of its end.
func (g *game) step() (e api.Errno, mayBe func(m *log.Log, b []byte) bool) {
	g.t.Helper()
	same := func(m *log.Log) bool { return alike(m.Control(), g.c) }
	keeps := func(m *log.Log, b []byte) bool {
		return same(m) && bytes.HasPrefix(g.b, b) && len(b) >= g.lasts
	}
	switch g.rnd.IntN(9) {
	case 0, 1, 2:
		from, end, e := g.l.Append(g.record())
		if e == api.OK {
			r, _, _ := g.l.Next(from)
			g.b = append(g.b, bytesOf(g.t, from, r)...)
		}
		if int(end) != len(g.b) {
			g.t.Fatal(from, end, e)
		}
		return e, keeps
	case 3:
		b := bytesOf(g.t, uint64(len(g.b)), g.record(), g.record())
		g.b = append(g.b, b...)
		return g.l.Take(b), keeps
	case 4, 5:
		e := g.l.Flush(uint64(len(g.b)))
		if e == api.OK {
			g.lasts = len(g.b)
		}
		return e, keeps
	case 6:
		return g.setControl(keeps)
	case 7:
		return g.branch(keeps)
	}
	return g.cut(keeps)
}

func (g *game) setControl(keeps func(*log.Log, []byte) bool) (api.Errno, func(*log.Log, []byte) bool) {
	c := g.c
	c.Redo, c.Min, c.Rank, c.Lost = g.ends(uint64(g.lasts)), g.rnd.Uint64(), g.rnd.IntN(2), g.rnd.IntN(2) == 0
	e := g.l.SetControl(c)
	c.Seq++
	if e == api.OK {
		g.c = c
	}
	return e, func(m *log.Log, b []byte) bool {
		return keeps(m, b) || alike(m.Control(), c) && bytes.HasPrefix(g.b, b) && len(b) >= g.lasts
	}
}

func (g *game) branch(keeps func(*log.Log, []byte) bool) (api.Errno, func(*log.Log, []byte) bool) {
	c, timeline := g.c, g.rnd.Uint64N(11)
	c.Path = append(slices.Clone(c.Path), api.Fork{Timeline: timeline, From: uint64(len(g.b))})
	e := g.l.Branch(timeline)
	c.Seq++
	if want := plainPath(c.Path); (e == api.ErrArg) == want || want && (e == api.ErrState) != (g.lasts < len(g.b)) {
		g.t.Fatal(e, c.Path)
	}
	if e == api.OK {
		g.c = c
	}
	return e, func(m *log.Log, b []byte) bool {
		return keeps(m, b) || alike(m.Control(), c) && bytes.Equal(b, g.b)
	}
}

func (g *game) cut(keeps func(*log.Log, []byte) bool) (api.Errno, func(*log.Log, []byte) bool) {
	place := g.ends(uint64(g.lasts))
	p := g.otherPath(place)
	e := g.l.Cut(place, p)
	may := plainPath(p) && place <= uint64(g.lasts) && p[len(p)-1].From <= place && log.Shared(p, g.c.Path) >= place
	if (e == api.ErrArg) == may || may && (e == api.ErrState) != (g.lasts < len(g.b)) {
		g.t.Fatal(e, place, p)
	}
	c := g.c
	c.Seq, c.Path, c.Lost, c.Redo = c.Seq+1, p, true, min(c.Redo, place)
	if e == api.OK {
		g.c, g.b, g.lasts = c, g.b[:place:place], int(place)
	}
	return e, func(m *log.Log, b []byte) bool {
		return keeps(m, b) || alike(m.Control(), c) && bytes.HasPrefix(g.b, b) && len(b) >= int(place)
	}
}

// crash is a loss of power, and what is opened behind it, if mayBe says so.
func (g *game) crash(mayBe func(*log.Log, []byte) bool) {
	g.t.Helper()
	var picks []int
	for range g.rnd.IntN(20) {
		picks = append(picks, g.rnd.IntN(4))
	}
	g.d = g.d.Crash(picks...)
	p, _, _ := plainOpen(g.d)
	l, ok := opensPlainly(g.t, g.d)
	if !ok || !mayBe(l, p.b) {
		g.t.Fatal(ok, p.control, len(p.b), g.c, len(g.b), g.lasts)
	}
	g.l, g.c, g.b, g.lasts = l, l.Control(), p.b, len(p.b)
}

// TestAnyUse: whatever is done, and whenever the power goes, what lasted is there, and nothing comes back.
func TestAnyUse(t *testing.T) {
	for seed := range uint64(400) {
		g := &game{t: t, rnd: rand.New(rand.NewPCG(seed, 76))}
		g.d, g.l = made(t, 9999)
		g.c = g.l.Control()
		for range 150 {
			if g.rnd.IntN(12) == 0 {
				g.d.Fuse(g.rnd.IntN(9))
			}
			e, mayBe := g.step()
			if e != api.OK && e != api.ErrDead && e != api.ErrArg && e != api.ErrState {
				t.Fatal(seed, e)
			}
			if e == api.ErrDead || g.rnd.IntN(20) == 0 {
				g.crash(mayBe)
			}
			if g.l.End() != uint64(len(g.b)) || g.l.Lasts() != uint64(g.lasts) {
				t.Fatal(seed, g.l.End(), len(g.b))
			}
		}
	}
}

// anySector is one as it may stand on a damaged disk.
func anySector(rnd *rand.Rand, d *disk.Disk, name string, k int) api.Sector {
	s, _ := d.Read(name, k)
	switch rnd.IntN(8) {
	case 0:
		return api.Sector{}
	case 1:
		other, _ := d.Read(name, rnd.IntN(4))
		return other
	case 2:
		for i := range s {
			s[i] = byte(rnd.IntN(256))
		}
	case 3:
		s[9] = byte(rnd.IntN(256))
	case 4:
		s[rnd.IntN(10)] ^= 1 << rnd.IntN(8)
	case 5: // a control that may be
		s = wiredOf(api.Control{Seq: rnd.Uint64N(20), Path: path(1, 0, 2+rnd.Uint64N(3), rnd.Uint64N(900)), Redo: rnd.Uint64N(900), Rank: rnd.IntN(3)}).sector()
	default:
		s[rnd.IntN(256)] ^= 1 << rnd.IntN(8)
	}
	return s
}

// TestAnyDisk: whatever a disk has, what is opened is what it says, and can be gone on with.
func TestAnyDisk(t *testing.T) {
	rnd := rand.New(rand.NewPCG(7, 6))
	whole, broken := 0, 0
	for range 4000 {
		d, l := forked(t)
		if rnd.IntN(3) == 0 {
			done(t, l.Cut(270+27*rnd.Uint64N(11), path(1, 0, 2, 270)))
		}
		for range 1 + rnd.IntN(3) {
			name := []string{"control", "log.1", "log.2", "log.3"}[rnd.IntN(4)]
			k := rnd.IntN(5)
			if rnd.IntN(40) == 0 {
				d.Remove(name)
			}
			d.Spoil(name, k, anySector(rnd, d, name, k))
		}
		m, ok := opensPlainly(t, d)
		if !ok {
			broken++
			continue
		}
		whole++
		anyCalls(t, rnd, m)
		if _, _, ok := plainOpen(d); !ok {
			continue // the end is ahead of the last fork
		}
		opensPlainly(t, d.Crash())
	}
	if whole < 500 || broken < 500 {
		t.Error(whole, broken)
	}
}

// anyCalls wants that whatever is asked of a log comes back with what its marks say.
func anyCalls(t *testing.T, rnd *rand.Rand, m *log.Log) {
	t.Helper()
	for range 9 {
		place := rnd.Uint64N(m.End() + 9)
		switch rnd.IntN(7) {
		case 0:
			laid(t, m, sized(32+rnd.IntN(600), 1))
		case 1:
			if e := m.Flush(place); (e == api.OK) != (place <= m.End()) || e == api.OK && m.Lasts() < place {
				t.Fatal(e, place)
			}
		case 2:
			m.Next(place)
		case 3:
			m.Raw(place, rnd.IntN(900))
		case 4:
			c := m.Control()
			c.Redo = place
			if e := m.SetControl(c); (e == api.OK) != (place <= m.Lasts()) {
				t.Fatal(e, place)
			}
		case 5:
			m.Branch(rnd.Uint64N(6))
		case 6:
			p := m.Path()
			p = p[:1+rnd.IntN(len(p))]
			m.Cut(place, append(p, path(2+rnd.Uint64N(6), place)[:rnd.IntN(2)]...))
		}
	}
}
