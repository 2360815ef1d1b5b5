package store

import (
	"maps"
	"slices"
	"sync/atomic"

	"lodestar/api"
)

// pin holds a collection as it is at a version.
type pin struct {
	coll    *coll
	version uint64
}

// Pin pins a collection as it is now. It gives the pin's number, and its version.
func (s *Store) Pin(name string) (int, uint64, api.Errno) {
	c := s.colls[name]
	if c == nil {
		return 0, 0, api.ErrNone
	}
	v := s.Version()
	c.hold(v)
	s.lastPin++
	s.pins[s.lastPin] = pin{c, v}
	return s.lastPin, v, api.OK
}

// Unpin takes a pin away, and tells whether there was one.
func (s *Store) Unpin(n int) bool {
	p, ok := s.pins[n]
	if !ok {
		return false
	}
	delete(s.pins, n)
	p.coll.release(p.version)
	p.coll.sweep()
	return true
}

// Pinned gives a pin's items, by rising ids, and its collection's conf.
func (s *Store) Pinned(n int) ([]api.Item, api.Conf, api.Errno) {
	p, ok := s.pins[n]
	if !ok {
		return nil, api.Conf{}, api.ErrGone
	}
	l, e := p.coll.items.All(p.version)
	return l, p.coll.conf, e
}

// Pins tells how many pins there are.
func (s *Store) Pins() int {
	return len(s.pins)
}

// Rows tells how many rows a collection has.
func (s *Store) Rows(name string) int {
	c := s.colls[name]
	if c == nil {
		return 0
	}
	return c.items.Rows()
}

// hold counts one pin more at v.
func (c *coll) hold(v uint64) {
	if c.held[v] == nil {
		c.held[v] = new(atomic.Int64)
	}
	c.held[v].Add(1)
}

// release counts one pin less at v.
func (c *coll) release(v uint64) {
	if c.held[v].Add(-1) == 0 {
		delete(c.held, v)
	}
}

// sweep takes the rows that are needed neither by a pin nor by what is there now.
func (c *coll) sweep() {
	c.items.Sweep(slices.Sorted(maps.Keys(c.held)))
}
