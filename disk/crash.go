package disk

import "understudy/api"

// Crash is what a loss of power makes of the disk, which itself stays as it is. The i-th sector that was written since its file's last Sync, by rising names, then numbers, has what one of these writes wrote, by picks[i] from 1 on, or, at 0, what lasted.
func (d *Disk) Crash(picks ...int) *Disk {
	c := d.Copy()
	if c == nil {
		return nil
	}
	for name := range c.Files() {
		picks = c.files[name].settle(picks)
	}
	c.fuse, c.dead, c.changes = noFuse, false, 0
	return c
}

// Spoil has the sector have these bytes, and last, without power too.
func (d *Disk) Spoil(name string, sector int, s api.Sector) api.Errno {
	f, e := d.place(name, sector)
	if e != api.OK {
		return e
	}
	f.spoil(sector, s)
	return api.OK
}

// Copy is a disk like this one that goes on apart.
func (d *Disk) Copy() *Disk {
	if d.none() {
		return nil
	}
	c := *d
	c.files = make(map[string]*file, len(d.files))
	for name, f := range d.files {
		c.files[name] = f.copy()
	}
	return &c
}

// Same tells whether both have the same capacity, and the same in the same files. Fuses, power and how many changes were done make no odds.
func (d *Disk) Same(o *Disk) bool {
	if d.none() || o.none() {
		return d.none() && o.none()
	}
	if d.capacity != o.capacity || len(d.files) != len(o.files) {
		return false
	}
	for name := range d.Files() {
		f, g := d.files[name], o.files[name]
		if g == nil || !f.same(g) {
			return false
		}
	}
	return true
}
