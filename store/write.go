package store

import (
	"lodestar/api"
	"lodestar/fixvec"
	"lodestar/tags"
)

// Write does all changes of l, or none of them. It gives the version then.
func (s *Store) Write(name string, l []api.Change) (uint64, api.Errno) {
	c := s.colls[name]
	if c == nil {
		return 0, api.ErrNone
	}
	if e := s.mayWrite(c, l); e != api.OK {
		return 0, e
	}
	if len(l) > 0 {
		c.lay(s.version.Add(1), l)
	}
	return s.Version(), api.OK
}

// mayWrite gives the first reason why l can't be written to c.
func (s *Store) mayWrite(c *coll, l []api.Change) api.Errno {
	if len(l) > api.MaxItems {
		return api.ErrFull
	}
	items, e := c.behind(l)
	switch {
	case e != api.OK:
		return e
	case items > api.MaxItems:
		return api.ErrFull
	case s.Version() >= api.MaxCount:
		return api.ErrCount
	// There is nothing to sweep first: each write that was done, and each pin that was taken away, has left only what is needed.
	case c.items.Rows()+len(l) > api.MaxRows:
		return api.ErrFull
	}
	return api.OK
}

// behind tells how many items would be there behind the changes of l, or why one of these can't be done.
func (c *coll) behind(l []api.Change) (int, api.Errno) {
	there := map[uint32]struct{}{}
	for _, x := range c.now() {
		there[x.Id] = struct{}{}
	}
	for _, x := range l {
		if e := c.mayChange(x); e != api.OK {
			return 0, e
		}
		if !x.Gone {
			there[x.Item.Id] = struct{}{}
			continue
		}
		if _, ok := there[x.Item.Id]; !ok {
			return 0, api.ErrNone
		}
		delete(there, x.Item.Id)
	}
	return len(there), api.OK
}

// mayChange gives x's error, if it may not be a change of c.
func (c *coll) mayChange(x api.Change) api.Errno {
	if x.Item.Id == 0 {
		return api.ErrArg
	}
	if x.Gone {
		return api.OK
	}
	if e := fixvec.Check(x.Item.Vec, int(c.conf.Dim)); e != api.OK {
		return e
	}
	return tags.Check(x.Item.Tags)
}

// lay does the changes of l, which may be written, at the version v.
func (c *coll) lay(v uint64, l []api.Change) {
	for _, x := range l {
		if x.Gone {
			c.items.Cut(v, x.Item.Id)
		} else {
			c.items.Put(v, x.Item)
		}
	}
	c.sweep()
}
