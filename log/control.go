package log

import (
	"slices"

	"understudy/api"
	"understudy/crc"
	"understudy/disk"
	"understudy/wire"
)

const (
	controlFile = "control"
	controls    = 2 // the newest one and the one ahead of it: while the one is written, the other lasts
	magic       = "understudy"
	wide        = 8
	middle      = 4
)

// head is what a control's bytes begin with: it is all of the control but its path.
type head struct {
	magic             [len(magic)]byte
	seq, redo, min    uint64
	lost, rank, forks byte
}

// Control is what the node knows of itself.
func (l *Log) Control() api.Control {
	if l.none() {
		return api.Control{}
	}
	c := l.control
	c.Path = slices.Clone(c.Path)
	return c
}

// Path is the timelines that lead to the current one.
func (l *Log) Path() []api.Fork {
	return l.Control().Path
}

// SetControl has the control last, with the next Seq. Its path must be the one that the log has.
func (l *Log) SetControl(c api.Control) api.Errno {
	switch {
	case l.none():
		return api.ErrNil
	case !slices.Equal(c.Path, l.control.Path) || c.Redo > l.lasts || !mayRank(c.Rank):
		return api.ErrArg
	}
	return l.write(c)
}

// write has the control last, with the next Seq, in the place of the elder one of the two that are there.
func (l *Log) write(c api.Control) api.Errno {
	c.Seq, c.Path = l.control.Seq+1, slices.Clone(c.Path)
	e := inTurn(
		func() api.Errno { return l.disk.Write(controlFile, placeOf(c.Seq), written(c)) },
		func() api.Errno { return l.disk.Sync(controlFile) },
	)
	if e != api.OK {
		return e
	}
	l.control = c
	return api.OK
}

func mayRank(n int) bool {
	return n == 0 || n == 1
}

// placeOf is the sector in which the control of that Seq stands.
func placeOf(seq uint64) int {
	return int(seq % controls)
}

// newer is the newer one of the disk's controls that are good, if there is one.
func newer(d *disk.Disk) (newest api.Control, found bool) {
	for k := range controls {
		s, _ := d.Read(controlFile, k) // without that file it is noughts, which are no control
		c, ok := good(s)
		if ok && placeOf(c.Seq) == k && (!found || c.Seq > newest.Seq) {
			newest, found = c, true
		}
	}
	return newest, found
}

// written is the control's sector.
func written(c api.Control) api.Sector {
	h := headOf(c)
	b := wire.Join(h.magic[:], number(h.seq, wide), number(h.redo, wide), number(h.min, wide), []byte{h.lost, h.rank, h.forks})
	for _, f := range c.Path {
		b = wire.Join(b, number(f.Timeline, middle), number(f.From, wide))
	}
	return sector(b, number(uint64(crc.Sum(b)), middle))
}

// good is the control that the sector has, if it is one as it is written.
func good(s api.Sector) (api.Control, bool) {
	r := wire.Read(s[:])
	var h head
	copy(h.magic[:], r.Bytes(len(h.magic)))
	h.seq, h.redo, h.min = r.Number(wide), r.Number(wide), r.Number(wide)
	h.lost, h.rank, h.forks = byte(r.Number(1)), byte(r.Number(1)), byte(r.Number(1))
	c := api.Control{Seq: h.seq, Redo: h.redo, Min: h.min, Lost: h.lost == 1, Rank: int(h.rank)}
	for range h.forks {
		c.Path = append(c.Path, api.Fork{Timeline: r.Number(middle), From: r.Number(wide)})
	}
	size := len(s) - r.Left()
	sum := uint32(r.Number(middle))
	ok := headOf(c) == h && MayPath(c.Path) && mayRank(c.Rank)
	return c, ok && crc.Holds(s[:size], sum) && sector(s[:size+middle]) == s
}

// headOf is the control without its path.
func headOf(c api.Control) (h head) {
	copy(h.magic[:], magic)
	h.seq, h.redo, h.min = c.Seq, c.Redo, c.Min
	if c.Lost {
		h.lost = 1
	}
	h.rank, h.forks = byte(c.Rank), byte(len(c.Path))
	return h
}

// number is so many bytes of a number that they hold.
func number(n uint64, size int) []byte {
	b, _ := wire.Put(n, size)
	return b
}

// sector is the pieces one behind the other, and noughts behind them.
func sector(pieces ...[]byte) (s api.Sector) {
	n := 0
	for _, b := range pieces {
		n += copy(s[n:], b)
	}
	return s
}
