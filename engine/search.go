package engine

import (
	"lodestar/api"
	"lodestar/fixvec"
	"lodestar/flat"
	"lodestar/tags"
)

// search finds what is nearest now.
func (e *Engine) search(x api.Message) (api.Message, api.Errno) {
	conf, ok := e.store.Conf(x.Name)
	if !ok {
		return api.Message{}, api.ErrNone
	}
	if !mayBeK(x.K) || x.Width > api.MaxWidth {
		return api.Message{}, api.ErrArg
	}
	if why := fine(conf, x); why != api.OK {
		return api.Message{}, why
	}
	return api.Message{Version: e.store.Version(), Hits: e.nearest(conf, x)}, api.OK
}

// nearest gives the hits of a search that may be.
func (e *Engine) nearest(conf api.Conf, x api.Message) []api.Hit {
	if !conf.Graph {
		return flat.Search(conf.Metric, e.Items(x.Name), x.Vec, x.Filter, int(x.K))
	}
	width := x.Width
	if width == 0 {
		width = conf.Width
	}
	return e.indexOf(x.Name, conf).Search(x.Vec, x.Filter, int(x.K), int(width), e.store.Version())
}

// open opens a cursor on what is there now.
func (e *Engine) open(owner uint64, now uint32, x api.Message) (api.Message, api.Errno) {
	conf, ok := e.store.Conf(x.Name)
	if !ok {
		return api.Message{}, api.ErrNone
	}
	if why := fine(conf, x); why != api.OK {
		return api.Message{}, why
	}
	pin, v, why := e.store.Pin(x.Name)
	n, went := e.cursors.Open(owner, pin, x.Vec, x.Filter, now)
	// Where none went there is no such pin.
	e.unpin(went)
	return api.Message{Num: n, Version: v}, why
}

// fetch tells a page of a cursor.
func (e *Engine) fetch(owner uint64, now uint32, x api.Message) (api.Message, api.Errno) {
	if !mayBeK(x.K) {
		return api.Message{}, api.ErrArg
	}
	a, why := e.cursors.Take(owner, x.Num, x.Page, now)
	if why != api.OK {
		return api.Message{}, why
	}
	items, conf, gone := e.store.Pinned(a.Pin)
	if gone != api.OK {
		e.cursors.Close(owner, x.Num)
		return api.Message{}, api.ErrCursor
	}
	hits := page(conf.Metric, items, a, int(x.K))
	e.cursors.Told(x.Num, x.Page, hits)
	return api.Message{Num: x.Num, Hits: hits}, api.OK
}

// page gives the first k hits of those that are asked for.
func page(m api.Metric, l []api.Item, a api.Ask, k int) []api.Hit {
	if a.Has {
		return flat.After(m, l, a.Vec, a.Filter, a.Last, k)
	}
	return flat.Search(m, l, a.Vec, a.Filter, k)
}

// close ends a cursor.
func (e *Engine) close(owner uint64, n uint32) api.Errno {
	pin, why := e.cursors.Close(owner, n)
	// Where there was no cursor there is no such pin.
	e.unpin(pin)
	return why
}

// unpin takes away pins of cursors that are gone. Some may have gone with their collection.
func (e *Engine) unpin(pins ...int) {
	for _, n := range pins {
		e.store.Unpin(n)
	}
}

// fine tells why the vector of x, or else its filter, may not be for a collection.
func fine(conf api.Conf, x api.Message) api.Errno {
	if why := fixvec.Check(x.Vec, int(conf.Dim)); why != api.OK {
		return why
	}
	return tags.Right(x.Filter)
}

// mayBeK tells whether one may ask for k hits.
func mayBeK(k uint16) bool {
	return k >= 1 && k <= api.MaxK
}
