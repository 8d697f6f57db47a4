package disk_test

import (
	"math/rand/v2"
	"slices"
	"strings"
	"testing"

	"understudy/api"
	"understudy/disk"
)

// Promise P3.5, and P0.3 as far as disk bears on it.

// plain is a disk in the plainest way: of each sector all that was ever written and is not lost, and how many of it last.
type plain struct {
	capacity, fuse, changes int
	dead                    bool
	files                   map[string]map[int]*story
}

type story struct {
	lasts api.Sector
	since []api.Sector
}

func (s *story) has() api.Sector {
	if len(s.since) == 0 {
		return s.lasts
	}
	return s.since[len(s.since)-1]
}

func (p *plain) count() (n int) {
	for _, f := range p.files {
		n += len(f)
	}
	return n
}

// power tells whether a change that is not refused is done, and whether the fuse ends at it.
func (p *plain) power() (lives, ends bool) {
	if p.dead {
		return false, false
	}
	p.changes++
	if p.fuse == 0 {
		p.dead = true
		return false, true
	}
	p.fuse--
	return true, false
}

func told(lives bool) api.Errno {
	if lives {
		return api.OK
	}
	return api.ErrDead
}

func (p *plain) make(name string) api.Errno {
	if p.files[name] != nil {
		return api.ErrExists
	}
	if len(p.files) == api.MaxFiles {
		return api.ErrFull
	}
	lives, _ := p.power()
	if lives {
		p.files[name] = map[int]*story{}
	}
	return told(lives)
}

func (p *plain) write(name string, sector int, s api.Sector) api.Errno {
	f := p.files[name]
	if f == nil {
		return api.ErrNone
	}
	if f[sector] == nil && p.count() == p.capacity {
		return api.ErrFull
	}
	lives, ends := p.power()
	if lives || ends {
		if f[sector] == nil {
			f[sector] = &story{}
		}
		f[sector].since = append(f[sector].since, s)
	}
	return told(lives)
}

func (p *plain) other(kind int, name, to string) api.Errno {
	f := p.files[name]
	if f == nil {
		return api.ErrNone
	}
	lives, _ := p.power()
	switch {
	case !lives:
	case kind == 0:
		for _, s := range f {
			s.lasts, s.since = s.has(), nil
		}
	case kind == 1:
		delete(p.files, name)
	case name != to:
		p.files[to] = f
		delete(p.files, name)
	}
	return told(lives)
}

func (p *plain) spoil(name string, sector int, s api.Sector) api.Errno {
	f := p.files[name]
	if f == nil {
		return api.ErrNone
	}
	if f[sector] == nil && p.count() == p.capacity {
		return api.ErrFull
	}
	f[sector] = &story{lasts: s}
	return api.OK
}

func (p *plain) crash(picks []int) *plain {
	c := &plain{capacity: p.capacity, fuse: -1, files: map[string]map[int]*story{}}
	i := 0
	for _, name := range sortedKeys(p.files) {
		c.files[name] = map[int]*story{}
		for _, sector := range sortedKeys(p.files[name]) {
			s := p.files[name][sector]
			lasts := s.lasts
			if len(s.since) > 0 {
				if i < len(picks) && picks[i] > 0 {
					lasts = append([]api.Sector{s.lasts}, s.since...)[picks[i]%(len(s.since)+1)]
				}
				i++
			}
			c.files[name][sector] = &story{lasts: lasts}
		}
	}
	return c
}

func sortedKeys[K interface{ ~int | ~string }, V any](m map[K]V) []K {
	var l []K
	for k := range m {
		l = append(l, k)
	}
	slices.Sort(l)
	return l
}

var (
	someNames   = []string{"a", "b", "c", "b.1", "-"}
	someSectors = []int{0, 1, 2, 9, 10, lastSector}
)

// alike wants that d is what p is, as far as looks tell.
func alike(t *testing.T, d *disk.Disk, p *plain) {
	t.Helper()
	if d.Room() != p.capacity-p.count() || d.Changes() != p.changes || d.Dead() != p.dead {
		t.Fatal(d.Room(), p.capacity-p.count(), d.Changes(), p.changes, d.Dead(), p.dead)
	}
	names := sortedKeys(p.files)
	i := 0
	for name, n := range d.Files() {
		if i >= len(names) || names[i] != name || len(p.files[name]) != n {
			t.Fatalf("file %d: %s with %d", i, name, n)
		}
		i++
	}
	if i != len(names) {
		t.Fatal("files are missing")
	}
	for _, name := range names {
		end := 0
		for _, sector := range someSectors {
			s := p.files[name][sector]
			if s == nil {
				s = &story{}
			} else {
				end = max(end, sector+1)
			}
			has(t, d, name, sector, s.has(), len(s.since) == 0)
		}
		if d.Count(name) != end {
			t.Fatal(name, d.Count(name), end)
		}
	}
}

// change does any change to both, and wants the same answer of them.
func change(t *testing.T, rnd *rand.Rand, d *disk.Disk, p *plain) {
	t.Helper()
	name, to := someNames[rnd.IntN(len(someNames))], someNames[rnd.IntN(len(someNames))]
	sector, s := someSectors[rnd.IntN(len(someSectors))], full(byte(rnd.IntN(200)))
	var got, want api.Errno
	kind := rnd.IntN(20)
	switch {
	case kind < 3:
		got, want = d.Make(name), p.make(name)
	case kind < 12:
		got, want = d.Write(name, sector, s), p.write(name, sector, s)
	case kind < 15:
		got, want = d.Sync(name), p.other(0, name, "")
	case kind == 15:
		got, want = d.Remove(name), p.other(1, name, "")
	case kind == 16:
		got, want = d.Rename(name, to), p.other(2, name, to)
	case kind == 17:
		got, want = d.Spoil(name, sector, s), p.spoil(name, sector, s)
	case kind == 18 && rnd.IntN(9) == 0:
		n := rnd.IntN(6) - 1
		d.Fuse(n)
		if !p.dead {
			p.fuse = n
		}
	}
	is(t, got, want)
}

func anyPicks(rnd *rand.Rand) []int {
	picks := make([]int, rnd.IntN(12))
	for i := range picks {
		picks[i] = rnd.IntN(9) - 2
	}
	return picks
}

func TestAnyChanges(t *testing.T) {
	for seed := range uint64(60) {
		rnd := rand.New(rand.NewPCG(seed, 3))
		capacity := 1 + rnd.IntN(20)
		d := made(t, capacity)
		p := &plain{capacity: capacity, fuse: -1, files: map[string]map[int]*story{}}
		for range 150 {
			change(t, rnd, d, p)
			alike(t, d, p)
			if rnd.IntN(8) == 0 || d.Dead() {
				picks := anyPicks(rnd)
				c, q := d.Crash(picks...), p.crash(picks)
				alike(t, d, p)
				if rnd.IntN(2) == 0 {
					d, p = c, q
				}
				alike(t, c, q)
			}
			if t.Failed() {
				t.Fatalf("seed %d", seed)
			}
		}
	}
}

// TestWhatIsSyncedOutlivesAnyCrash, and a crash of a crash is the same.
func TestWhatIsSyncedOutlivesAnyCrash(t *testing.T) {
	for seed := range uint64(40) {
		rnd := rand.New(rand.NewPCG(seed, 4))
		d := made(t, 30, someNames...)
		for range 60 {
			done(t, d.Write(someNames[rnd.IntN(len(someNames))], rnd.IntN(6), full(byte(rnd.IntN(250)))))
		}
		synced := someNames[rnd.IntN(len(someNames))]
		done(t, d.Sync(synced))
		for range 10 {
			c := d.Crash(anyPicks(rnd)...)
			for sector := range 7 {
				want, _ := d.Read(synced, sector)
				has(t, c, synced, sector, want, true)
			}
			for range 3 {
				if cc := c.Crash(anyPicks(rnd)...); !cc.Same(c) || !c.Same(cc) {
					t.Fatal("a crash of a crash is another one")
				}
			}
		}
	}
}

// TestWhatACrashMayHave: of each sector what lasted, or one of the writes since, and with picks each of them.
func TestWhatACrashMayHave(t *testing.T) {
	d := made(t, 9, "a", "b")
	done(t, d.Write("a", 0, full(1)), d.Sync("a"), d.Write("a", 0, full(2)), d.Write("a", 0, full(3)), d.Write("b", 4, full(4)), d.Write("b", 4, full(5)))
	var l []string
	for i := range 3 {
		for j := range 3 {
			c := d.Crash(i, j)
			a, _ := c.Read("a", 0)
			b, _ := c.Read("b", 4)
			l = append(l, string([]byte{'0' + a[0], '0' + b[0]}))
		}
	}
	if got := strings.Join(l, " "); got != "10 14 15 20 24 25 30 34 35" {
		t.Error(got)
	}
	rnd := rand.New(rand.NewPCG(5, 6))
	for range 300 {
		c := d.Crash(anyPicks(rnd)...)
		a, _ := c.Read("a", 0)
		b, _ := c.Read("b", 4)
		if strings.IndexByte("\x01\x02\x03", a[0]) < 0 || strings.IndexByte("\x00\x04\x05", b[0]) < 0 || a != full(a[0]) || b != full(b[0]) {
			t.Fatal(a[0], b[0])
		}
	}
}

// TestGreatDisk: as much as there may be, in good time.
func TestGreatDisk(t *testing.T) {
	d := made(t, api.MaxDisk, "a")
	for sector := range api.MaxSectors {
		if e := d.Write("a", sector, full(byte(sector))); e != api.OK {
			t.Fatal(sector, e)
		}
		if sector%64 == 0 {
			done(t, d.Sync("a"))
		}
	}
	if d.Room() != api.MaxDisk-api.MaxSectors || d.Count("a") != api.MaxSectors {
		t.Error(d.Room(), d.Count("a"))
	}
	c := d.Crash()
	has(t, c, "a", 64, full(64), true)
	has(t, c, "a", lastSector, full(0), true)
	if !c.Crash(1).Same(c) || c.Same(d) {
		t.Error("Same")
	}
}
