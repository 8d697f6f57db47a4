package log

import (
	"slices"

	"understudy/api"
)

// Branch begins a timeline at the end.
func (l *Log) Branch(timeline uint64) api.Errno {
	if l.none() {
		return api.ErrNil
	}
	c, own := l.control, l.control.Path
	// Without its capacity the longer path would stand in the memory of the own one.
	c.Path = append(own[:len(own):len(own)], api.Fork{Timeline: timeline, From: l.End()})
	switch {
	case !MayPath(c.Path):
		return api.ErrArg
	case l.lasts < l.End():
		return api.ErrState
	case !l.fits(timeline):
		return api.ErrFull
	}
	return inTurn(
		func() api.Errno { return l.makeAnew(timeline) },
		func() api.Errno { return l.write(c) },
	)
}

// Cut has the log end at that place, on a path that is its own up to there. It is Lost from then on.
func (l *Log) Cut(at uint64, path []api.Fork) api.Errno {
	if l.none() {
		return api.ErrNil
	}
	foreign := beside(path, l.control.Path)
	switch {
	case !l.mayCut(at, path):
		return api.ErrArg
	case l.lasts < l.End():
		return api.ErrState
	case !l.fits(foreign...):
		return api.ErrFull
	}
	c, last := l.control, path[len(path)-1]
	c.Path, c.Lost, c.Redo = slices.Clone(path), true, min(c.Redo, at)
	return inTurn(
		func() api.Errno { return l.forget(last) },
		func() api.Errno { return each(foreign, l.makeAnew) },
		func() api.Errno { return l.write(c) },
		func() api.Errno {
			l.bytes, l.lasts = l.bytes[:at], at
			return api.OK
		},
		func() api.Errno { return each(beside(l.forksOnDisk(), path), l.remove) },
		func() api.Errno { return l.clean(last, at) },
	)
}

func (l *Log) mayCut(at uint64, path []api.Fork) bool {
	return MayPath(path) && at <= l.lasts && path[len(path)-1].From <= at && Shared(path, l.control.Path) >= at
}

// fits tells whether the disk can take the files of those timelines, made anew, and the next control.
func (l *Log) fits(timelines ...uint64) bool {
	files, sectors, hasBoth := len(timelines), l.disk.Room(), false
	for name, count := range l.disk.Files() {
		if n, ok := timelineOf(name); ok && slices.Contains(timelines, n) {
			sectors += count
			continue
		}
		files++
		hasBoth = hasBoth || name == controlFile && count >= controls
	}
	return files <= api.MaxFiles && (sectors > 0 || hasBoth)
}

// forget erases what the fork's file has behind the place at which the own path left it. It was cut once; were the fork the last one again, it would come back with a loss of power.
func (l *Log) forget(f api.Fork) api.Errno {
	own := l.control.Path
	i := slices.Index(own, f)
	if i < 0 || i+1 == len(own) || own[i+1].From > l.End() {
		return api.OK
	}
	left := own[i+1].From
	for range l.stale(f, left) { // if there is any: a sync is a change too
		return l.clean(f, left)
	}
	return api.OK
}

// makeAnew makes a timeline's file. One that is there goes first.
func (l *Log) makeAnew(timeline uint64) api.Errno {
	if l.disk.Has(fileOf(timeline)) {
		if e := l.remove(timeline); e != api.OK {
			return e
		}
	}
	return l.disk.Make(fileOf(timeline))
}

func (l *Log) remove(timeline uint64) api.Errno {
	return l.disk.Remove(fileOf(timeline))
}

// forksOnDisk is the timelines that have a file.
func (l *Log) forksOnDisk() []api.Fork {
	var forks []api.Fork
	for name := range l.disk.Files() {
		if n, ok := timelineOf(name); ok {
			forks = append(forks, api.Fork{Timeline: n})
		}
	}
	return forks
}

// beside is the timelines of the forks that the path does not have.
func beside(forks, path []api.Fork) []uint64 {
	var timelines []uint64
	for _, f := range forks {
		if !has(path, f.Timeline) {
			timelines = append(timelines, f.Timeline)
		}
	}
	return timelines
}

// each does it to one timeline behind the other, up to the first one at which it is refused.
func each(timelines []uint64, do func(uint64) api.Errno) api.Errno {
	var steps []func() api.Errno
	for _, n := range timelines {
		steps = append(steps, func() api.Errno { return do(n) })
	}
	return inTurn(steps...)
}
