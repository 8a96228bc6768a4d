package journal

import (
	"ropewalk/api"
	"ropewalk/disk"
)

// A half is one half of a disk, as a run of bytes.
type half struct {
	d       *disk.Disk
	from    int // its first sector
	sectors int
}

// size is how many bytes.
func (h half) size() int { return h.sectors * api.Sector }

// read is the sector in which a byte stands. Those of a half are all there: so there is no error.
func (h half) read(at int) []byte {
	s, _ := h.d.Read(h.from + at/api.Sector)
	return s
}

// write writes the sector in which a byte stands.
func (h half) write(at int, s []byte) api.Errno { return h.d.Write(h.from+at/api.Sector, s) }

// bytes is all of it.
func (h half) bytes() []byte {
	b := make([]byte, 0, h.size())
	for len(b) < h.size() {
		b = append(b, h.read(len(b))...)
	}
	return b
}

// put writes bytes to a place, flushed. What stands beside them in their sectors is written as it is: a torn write does nothing to it.
func (h half) put(at int, b []byte) api.Errno {
	for len(b) > 0 {
		s := h.read(at)
		n := copy(s[at%api.Sector:], b)
		if e := h.write(at, s); e != api.OK {
			return e
		}
		at, b = at+n, b[n:]
	}
	return h.d.Flush()
}

// wipe makes noughts of all from a place on, flushed. Where noughts are, it does no act.
func (h half) wipe(at int) api.Errno {
	wiped := false
	for at < h.size() {
		s := h.read(at)
		rest := s[at%api.Sector:]
		if !blank(rest) {
			clear(rest)
			if e := h.write(at, s); e != api.OK {
				return e
			}
			wiped = true
		}
		at += len(rest)
	}
	if !wiped {
		return api.OK
	}
	return h.d.Flush()
}

// blank tells whether there are noughts alone.
func blank(b []byte) bool {
	for _, c := range b {
		if c != 0 {
			return false
		}
	}
	return true
}
