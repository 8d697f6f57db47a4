package pool

import (
	"strconv"

	"understudy/api"
)

// What a full disk refuses must have changed nothing. So room is asked for ahead of the first change, for all that will be written: of the log, as its chapter lays it out, too.
const (
	logPrefix   = "log."
	logRoom     = 246 // bytes of the log in a sector
	controlFile = "control"
	controls    = 2
	tooMany     = api.MaxDisk + 1 // sectors: no disk has room for them
)

// fits tells whether the disk has room for those pages, and for so many sectors more.
func (p *Pool) fits(pages []int, more int) bool {
	room := p.disk.Room() - more
	if room >= len(pages)*sectors {
		return true
	}
	// Which sectors count already no call tells, but a write that is tried.
	trial := p.disk.Crash()
	all := trial.Room()
	for _, n := range pages {
		for k := range sectors {
			if e := trial.Write(dataFile, n*sectors+k, api.Sector{}); e == api.ErrFull {
				return false
			}
		}
	}
	return all-trial.Room() <= room
}

// logNeeds is how many sectors more the log's last file will need to last up to that place.
func (p *Pool) logNeeds(end uint64) int {
	path := p.log.Path()
	last := path[len(path)-1]
	file := logPrefix + strconv.FormatUint(last.Timeline, 10)
	count := (max(end, last.From) - last.From + logRoom - 1) / logRoom
	switch {
	case count > api.MaxSectors:
		return tooMany
	case !p.disk.Has(file): // then it stands on another disk
		return 0
	}
	return max(int(count)-p.disk.Count(file), 0)
}

// controlNeeds is how many sectors more the next control will need: the first one stands in one of the two.
func (p *Pool) controlNeeds() int {
	for name, count := range p.disk.Files() {
		if name == controlFile && count < controls {
			return 1
		}
	}
	return 0
}
