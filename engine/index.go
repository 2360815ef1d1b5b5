package engine

import (
	"sync"

	"lodestar/api"
	"lodestar/hnsw"
)

// coll is what is here of a collection: its index, which is made when it is first asked for.
type coll struct {
	once   sync.Once
	index  *hnsw.Index // nil until then
	levels []byte      // of its nodes, in turn
	put    int         // how many nodes it was ever given
}

// idleNodes is how many nodes more than twice the items an index may have ahead of a sweep.
const idleNodes = 8

// indexOf gives the index of a collection that is there, and has such a conf.
func (e *Engine) indexOf(name string, conf api.Conf) *hnsw.Index {
	c := e.colls[name]
	c.once.Do(func() { c.make(conf, e.Items(name), e.store.Version()) })
	return c.index
}

// make makes the index of the items that are there at v.
func (c *coll) make(conf api.Conf, l []api.Item, v uint64) {
	c.index = hnsw.New(conf.Metric, int(conf.Links), int(conf.Width))
	for _, y := range l {
		c.add(y, v)
	}
}

// follow does in the index, if it was made, what was written at v, so that so many items are there.
func (c *coll) follow(l []api.Change, v uint64, items int) {
	if c.index == nil {
		return
	}
	for _, x := range l {
		if x.Gone {
			c.index.Cut(x.Item.Id, v)
		} else {
			c.add(x.Item, v)
		}
	}
	if c.index.Len() > 2*items+idleNodes {
		c.index.Sweep(nil)
	}
}

// add puts a node of y, from v on.
func (c *coll) add(y api.Item, v uint64) {
	level := 0
	if many := len(c.levels); many > 0 {
		level = int(c.levels[c.put%many])
	}
	c.index.Put(y, level, v)
	c.put++
}
