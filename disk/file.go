package disk

import (
	"maps"
	"slices"

	"understudy/api"
)

type file struct {
	lasts map[int]api.Sector   // of each sector that counts
	since map[int][]api.Sector // the writes since the last Sync, of each sector that has any
	end   int                  // one above the greatest sector that counts
}

func newFile() *file {
	return &file{lasts: make(map[int]api.Sector), since: make(map[int][]api.Sector)}
}

func (f *file) counts(sector int) bool {
	_, ok := f.lasts[sector]
	return ok
}

// has is what was written last, or lasts.
func (f *file) has(sector int) api.Sector {
	if l := f.since[sector]; len(l) > 0 {
		return l[len(l)-1]
	}
	return f.lasts[sector]
}

func (f *file) write(sector int, s api.Sector) {
	if !f.counts(sector) {
		f.keep(sector, api.Sector{})
	}
	f.since[sector] = append(f.since[sector], s)
}

// keep has these bytes last. The sector counts from then on.
func (f *file) keep(sector int, s api.Sector) {
	f.lasts[sector] = s
	f.end = max(f.end, sector+1)
}

func (f *file) sync() {
	for sector := range f.since {
		f.keep(sector, f.has(sector))
	}
	clear(f.since)
}

// spoil has these bytes last, and drops the writes: none of them is to come back.
func (f *file) spoil(sector int, s api.Sector) {
	f.keep(sector, s)
	delete(f.since, sector)
}

// settle is what a loss of power does to the file. It takes the picks that it needs, and answers the rest.
func (f *file) settle(picks []int) []int {
	for _, sector := range slices.Sorted(maps.Keys(f.since)) {
		pick := 0
		if len(picks) > 0 {
			pick, picks = picks[0], picks[1:]
		}
		writes := f.since[sector]
		if pick = max(pick, 0) % (len(writes) + 1); pick > 0 {
			f.keep(sector, writes[pick-1])
		}
	}
	clear(f.since)
	return picks
}

func (f *file) copy() *file {
	since := make(map[int][]api.Sector, len(f.since))
	for sector, writes := range f.since {
		// With one list for both, what one appends would stand in the other's place.
		since[sector] = slices.Clone(writes)
	}
	return &file{lasts: maps.Clone(f.lasts), since: since, end: f.end}
}

// same tells whether both have the same in each of their sectors. Of writes that do not last it is the last one, and how many they are.
func (f *file) same(g *file) bool {
	for sector, lasts := range f.lasts {
		switch {
		case !g.counts(sector) || g.lasts[sector] != lasts:
			return false
		case len(f.since[sector]) != len(g.since[sector]) || f.has(sector) != g.has(sector):
			return false
		}
	}
	return len(f.lasts) == len(g.lasts)
}
