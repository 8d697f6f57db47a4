package log

import (
	"iter"
	"strconv"
	"strings"

	"understudy/api"
	"understudy/disk"
	"understudy/wire"
)

const (
	filePrefix = "log."
	placeSize  = 8
	countSize  = 2
	headSize   = placeSize + countSize
	room       = api.SectorSize - headSize // for the log's bytes, in a sector
)

// fileOf is the file in which a timeline's bytes stand.
func fileOf(timeline uint64) string {
	return filePrefix + strconv.FormatUint(timeline, 10)
}

// timelineOf is the timeline whose file has that name, if it is one's.
func timelineOf(name string) (uint64, bool) {
	n, err := strconv.ParseUint(strings.TrimPrefix(name, filePrefix), 10, 64)
	return n, err == nil && mayTimeline(n) && fileOf(n) == name
}

// gathered is the bytes that the files of the path hold, if they are there, and each one holds all up to where its timeline was left.
func gathered(d *disk.Disk, path []api.Fork) ([]byte, bool) {
	var all []byte
	for i, f := range path {
		if !d.Has(fileOf(f.Timeline)) {
			return nil, false
		}
		b := held(d, f)
		if i+1 < len(path) {
			size := path[i+1].From - f.From
			if size > uint64(len(b)) {
				return nil, false
			}
			b = b[:size]
		}
		all = append(all, b...)
	}
	return all, true
}

// held is the bytes that a fork's file holds, as far as they go on.
func held(d *disk.Disk, f api.Fork) []byte {
	var b []byte
	file := fileOf(f.Timeline)
	for k := range d.Count(file) {
		s, _ := d.Read(file, k)
		place, _ := wire.Get(s[:placeSize])
		count, _ := wire.Get(s[placeSize:headSize])
		if place != begins(f, k) || count > room {
			break
		}
		b = append(b, s[headSize:headSize+count]...)
		if count < room {
			break
		}
	}
	return b
}

// begins is the place from which on the sector of a fork's file holds bytes.
func begins(f api.Fork, k int) uint64 {
	return f.From + room*uint64(k)
}

// sectorOf is which sector of the fork's file holds the byte at that place; of a place ahead of the fork it is the first one.
func sectorOf(f api.Fork, place uint64) int {
	return int((max(place, f.From) - f.From) / room)
}

// current is the fork to whose file is written.
func (l *Log) current() api.Fork {
	return l.control.Path[len(l.control.Path)-1]
}

// Flush has all last, if not all up to that place does.
func (l *Log) Flush(upto uint64) api.Errno {
	switch {
	case l.none():
		return api.ErrNil
	case upto > l.End():
		return api.ErrArg
	case upto <= l.lasts:
		return api.OK
	}
	f, end := l.current(), l.End()
	file := fileOf(f.Timeline)
	count := sectorOf(f, end+room-1)
	if count > api.MaxSectors || count-l.disk.Count(file) > l.disk.Room() {
		return api.ErrFull
	}
	for k := sectorOf(f, l.lasts); k < count; k++ {
		if e := l.disk.Write(file, k, l.sector(f, k, end)); e != api.OK {
			return e
		}
	}
	if e := l.disk.Sync(file); e != api.OK {
		return e
	}
	l.lasts = end
	return api.OK
}

// sector is what the sector of the fork's file has where the log's bytes end at that place: noughts, if none of them stand in it.
func (l *Log) sector(f api.Fork, k int, end uint64) api.Sector {
	at := begins(f, k)
	if at >= end {
		return api.Sector{}
	}
	b := l.bytes[at:min(at+room, end)]
	return sector(number(at, placeSize), number(uint64(len(b)), countSize), b)
}

// stale goes over the sectors of the fork's file, from the one of that place on, that have something else than they do where the log's bytes end there; with what they should have.
func (l *Log) stale(f api.Fork, end uint64) iter.Seq2[int, api.Sector] {
	file := fileOf(f.Timeline)
	return func(yield func(int, api.Sector) bool) {
		for k := sectorOf(f, end); k < l.disk.Count(file); k++ {
			want := l.sector(f, k, end)
			if has, _ := l.disk.Read(file, k); has != want && !yield(k, want) {
				return
			}
		}
	}
}

// clean has the fork's bytes end at that place.
func (l *Log) clean(f api.Fork, end uint64) api.Errno {
	file := fileOf(f.Timeline)
	for k, s := range l.stale(f, end) {
		if e := l.disk.Write(file, k, s); e != api.OK {
			return e
		}
	}
	return l.disk.Sync(file)
}
