package message

import (
	"math"

	"lodestar/api"
	"lodestar/varint"
)

// reader reads things one behind the other, as long as there is no error: then all that it reads is zero.
type reader struct {
	rest []byte    // what isn't read yet
	err  api.Errno // the first one
}

// end gives the first error. Nothing may be left.
func (r *reader) end() api.Errno {
	if r.err == api.OK && len(r.rest) > 0 {
		r.err = api.ErrMore
	}
	return r.err
}

// field reads f of x.
func (r *reader) field(f field, x *api.Message) {
	switch f {
	case fieldReq:
		x.Req = r.long()
	case fieldCaps:
		x.Caps = r.long()
	case fieldToken:
		x.Token = r.number(math.MaxUint64)
	case fieldCode:
		x.Code = r.byte()
	case fieldN:
		x.N = r.long()
	case fieldName:
		x.Name = r.text()
	case fieldConf:
		x.Conf = r.conf()
	case fieldChanges:
		x.Changes = r.changes()
	case fieldId:
		x.Id = r.long()
	case fieldVec:
		x.Vec = r.vector()
	case fieldK:
		x.K = r.short()
	case fieldWidth:
		x.Width = r.short()
	case fieldFilter:
		x.Filter = r.filter()
	case fieldNum:
		x.Num = r.long()
	case fieldPage:
		x.Page = r.long()
	case fieldBytes:
		x.Bytes = append([]byte(nil), r.bytes()...)
	case fieldVersion:
		x.Version = r.number(math.MaxUint64)
	case fieldNames:
		x.Names = r.texts()
	case fieldItems:
		x.Items = readList(r, func() api.Item { return r.item() })
	case fieldHits:
		x.Hits = r.hits()
	}
}

// number reads a number of a field that has room for most.
func (r *reader) number(most uint64) uint64 {
	return readNumber(r, varint.Get, 0, most)
}

// whole reads a whole number of a field that has room for those from least to most.
func (r *reader) whole(least, most int64) int64 {
	return readNumber(r, varint.GetInt, least, most)
}

func (r *reader) byte() byte {
	return byte(r.number(math.MaxUint8))
}

func (r *reader) short() uint16 {
	return uint16(r.number(math.MaxUint16))
}

func (r *reader) long() uint32 {
	return uint32(r.number(math.MaxUint32))
}

func (r *reader) flag() bool {
	return r.number(1) == 1
}

// bytes gives a text as a piece of what is read: it isn't handed out but as a copy.
func (r *reader) bytes() []byte {
	n := r.number(api.MaxFrame)
	if n > uint64(len(r.rest)) {
		r.err = api.ErrEnd
		return nil
	}
	b := r.rest[:n]
	r.rest = r.rest[n:]
	return b
}

func (r *reader) text() string {
	return string(r.bytes())
}

func (r *reader) texts() []string {
	return readList(r, func() string { return r.text() })
}

func (r *reader) vector() []int32 {
	return readList(r, func() int32 { return int32(r.whole(math.MinInt32, math.MaxInt32)) })
}

// conf reads in the order of the literal's lines: Go's calls in a literal go from left to right. So do those below.
func (r *reader) conf() api.Conf {
	return api.Conf{
		Name:   r.text(),
		Dim:    r.byte(),
		Metric: api.Metric(r.number(uint64(api.Minus))),
		Graph:  r.flag(),
		Links:  r.byte(),
		Width:  r.short(),
	}
}

func (r *reader) filter() api.Filter {
	return api.Filter{All: r.texts(), Any: r.texts(), None: r.texts()}
}

func (r *reader) item() api.Item {
	return api.Item{Id: r.long(), Vec: r.vector(), Tags: r.texts()}
}

func (r *reader) hits() []api.Hit {
	return readList(r, func() api.Hit {
		return api.Hit{Dist: r.whole(math.MinInt64, math.MaxInt64), Id: r.long()}
	})
}

func (r *reader) changes() []api.Change {
	return readList(r, func() api.Change {
		if r.flag() {
			return api.Change{Gone: true, Item: api.Item{Id: r.long()}}
		}
		return api.Change{Item: r.item()}
	})
}

// readList reads a list, each thing of it by one.
func readList[T any](r *reader, one func() T) []T {
	var l []T
	for range r.number(api.MaxItems) {
		if r.err != api.OK {
			break
		}
		l = append(l, one())
	}
	return l
}

// readNumber reads what get gets. It is zero beside an error.
func readNumber[N int64 | uint64](r *reader, get func([]byte) (N, int, api.Errno), least, most N) N {
	if r.err != api.OK {
		return 0
	}
	n, used, e := get(r.rest)
	if e == api.OK && (n < least || n > most) {
		e = api.ErrForm
	}
	if e != api.OK {
		r.err = e
		return 0
	}
	r.rest = r.rest[used:]
	return n
}
