package engine

import "lodestar/api"

// create makes a collection.
func (e *Engine) create(c api.Conf) api.Errno {
	why := e.store.Create(c)
	if why == api.OK {
		e.colls[c.Name] = &coll{levels: e.levels}
	}
	return why
}

// drop takes a collection away, and its index.
func (e *Engine) drop(name string) api.Errno {
	why := e.store.Drop(name)
	if why == api.OK {
		delete(e.colls, name)
	}
	return why
}

// writeFew writes changes that came at once.
func (e *Engine) writeFew(name string, l []api.Change) (api.Message, api.Errno) {
	if len(l) > api.MaxBatch {
		return api.Message{}, api.ErrLong
	}
	return e.write(name, l)
}

// write writes changes to a collection, and to its index.
func (e *Engine) write(name string, l []api.Change) (api.Message, api.Errno) {
	v, why := e.store.Write(name, l)
	if why != api.OK {
		return api.Message{}, why
	}
	e.colls[name].follow(l, v, e.store.Size(name))
	return api.Message{Version: v}, api.OK
}

// begin begins an upload for a collection.
func (e *Engine) begin(owner uint64, name string) (api.Message, api.Errno) {
	if _, ok := e.store.Conf(name); !ok {
		return api.Message{}, api.ErrNone
	}
	n, why := e.uploads.Begin(owner, name)
	return api.Message{Num: n}, why
}

// commit ends an upload, and writes its changes.
func (e *Engine) commit(owner uint64, n uint32) (api.Message, api.Errno) {
	name, l, why := e.uploads.Commit(owner, n)
	if why != api.OK {
		return api.Message{}, why
	}
	return e.write(name, l)
}
