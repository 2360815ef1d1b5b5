package message

import (
	"lodestar/api"
	"lodestar/varint"
)

// writer writes things one behind the other.
type writer struct {
	b   []byte
	bad bool // one of them can't be written
}

// end gives what was written, if all of it could be.
func (w *writer) end() ([]byte, bool) {
	if w.bad {
		return nil, false
	}
	return w.b, true
}

// field takes f out of x and writes it: what is left in x at last is what its kind has no field for.
func (w *writer) field(f field, x *api.Message) {
	switch f {
	case fieldReq:
		w.number(uint64(take(&x.Req)))
	case fieldCaps:
		w.number(uint64(take(&x.Caps)))
	case fieldToken:
		w.number(take(&x.Token))
	case fieldCode:
		w.number(uint64(take(&x.Code)))
	case fieldN:
		w.number(uint64(take(&x.N)))
	case fieldName:
		w.text(take(&x.Name))
	case fieldConf:
		w.conf(take(&x.Conf))
	case fieldChanges:
		w.changes(take(&x.Changes))
	case fieldId:
		w.number(uint64(take(&x.Id)))
	case fieldVec:
		w.vector(take(&x.Vec))
	case fieldK:
		w.number(uint64(take(&x.K)))
	case fieldWidth:
		w.number(uint64(take(&x.Width)))
	case fieldFilter:
		w.filter(take(&x.Filter))
	case fieldNum:
		w.number(uint64(take(&x.Num)))
	case fieldPage:
		w.number(uint64(take(&x.Page)))
	case fieldBytes:
		w.bytes(take(&x.Bytes))
	case fieldVersion:
		w.number(take(&x.Version))
	case fieldNames:
		w.texts(take(&x.Names))
	case fieldItems:
		writeList(w, take(&x.Items), w.item)
	case fieldHits:
		writeList(w, take(&x.Hits), w.hit)
	}
}

func (w *writer) number(n uint64) {
	w.b = append(w.b, varint.Put(n)...)
}

func (w *writer) whole(n int64) {
	w.b = append(w.b, varint.PutInt(n)...)
}

func (w *writer) flag(yes bool) {
	if yes {
		w.number(1)
	} else {
		w.number(0)
	}
}

// length writes how many bytes or things follow, and tells whether they may be so many.
func (w *writer) length(n, most int) bool {
	if n > most {
		w.bad = true
		return false
	}
	w.number(uint64(n))
	return true
}

func (w *writer) text(s string) {
	if w.length(len(s), api.MaxFrame) {
		w.b = append(w.b, s...)
	}
}

func (w *writer) bytes(b []byte) {
	if w.length(len(b), api.MaxFrame) {
		w.b = append(w.b, b...)
	}
}

func (w *writer) texts(l []string) {
	writeList(w, l, w.text)
}

func (w *writer) vector(v []int32) {
	writeList(w, v, func(part int32) { w.whole(int64(part)) })
}

func (w *writer) metric(m api.Metric) {
	if m > api.Minus {
		w.bad = true
	}
	w.number(uint64(m))
}

func (w *writer) conf(c api.Conf) {
	w.text(c.Name)
	w.number(uint64(c.Dim))
	w.metric(c.Metric)
	w.flag(c.Graph)
	w.number(uint64(c.Links))
	w.number(uint64(c.Width))
}

func (w *writer) filter(f api.Filter) {
	w.texts(f.All)
	w.texts(f.Any)
	w.texts(f.None)
}

func (w *writer) item(x api.Item) {
	w.number(uint64(x.Id))
	w.vector(x.Vec)
	w.texts(x.Tags)
}

func (w *writer) hit(h api.Hit) {
	w.whole(h.Dist)
	w.number(uint64(h.Id))
}

func (w *writer) change(c api.Change) {
	w.flag(c.Gone)
	if !c.Gone {
		w.item(c.Item)
		return
	}
	// What is Gone has an Id alone: there is no place for more.
	if len(c.Item.Vec) > 0 || len(c.Item.Tags) > 0 {
		w.bad = true
	}
	w.number(uint64(c.Item.Id))
}

func (w *writer) changes(l []api.Change) {
	writeList(w, l, w.change)
}

// writeList writes l, each thing of it by one.
func writeList[T any](w *writer, l []T, one func(T)) {
	if !w.length(len(l), api.MaxItems) {
		return
	}
	for _, thing := range l {
		one(thing)
	}
}

// take gives what stands at from, and leaves zero there.
func take[T any](from *T) T {
	var zero T
	taken := *from
	*from = zero
	return taken
}
