package disk

import (
	"iter"
	"maps"
	"slices"

	"understudy/api"
)

// Read is what the sector has.
func (d *Disk) Read(name string, sector int) (api.Sector, api.Errno) {
	f, e := d.find(name, sector)
	if e != api.OK {
		return api.Sector{}, e
	}
	return f.has(sector), api.OK
}

// Lasts tells whether the sector was not written since the file's last Sync.
func (d *Disk) Lasts(name string, sector int) (bool, api.Errno) {
	f, e := d.find(name, sector)
	if e != api.OK {
		return false, e
	}
	return len(f.since[sector]) == 0, api.OK
}

// Has tells whether there is such a file.
func (d *Disk) Has(name string) bool {
	_, e := d.find(name, 0)
	return e == api.OK
}

// Files goes over the files by rising names, each with how many of its sectors count. It stays at what was there as it was called.
func (d *Disk) Files() iter.Seq2[string, int] {
	var names []string
	var counts []int
	if !d.none() {
		names = slices.Sorted(maps.Keys(d.files))
	}
	for _, name := range names {
		counts = append(counts, len(d.files[name].lasts))
	}
	return func(yield func(string, int) bool) {
		for i, name := range names {
			if yield == nil || !yield(name, counts[i]) {
				return
			}
		}
	}
}

// Count is one above the file's greatest sector that counts.
func (d *Disk) Count(name string) int {
	f, e := d.find(name, 0)
	if e != api.OK {
		return 0
	}
	return f.end
}

// Room is how many sectors more may count.
func (d *Disk) Room() int {
	if d.none() {
		return 0
	}
	room := d.capacity
	for _, f := range d.files {
		room -= len(f.lasts)
	}
	return room
}

// Dead tells whether the power is gone.
func (d *Disk) Dead() bool {
	return !d.none() && d.dead
}

// Changes is how many changes were done, or met the fuse's end.
func (d *Disk) Changes() int {
	if d.none() {
		return 0
	}
	return d.changes
}
