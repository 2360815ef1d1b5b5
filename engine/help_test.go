package engine

import (
	"fmt"
	"slices"
	"testing"

	"lodestar/api"
	"lodestar/hnsw"
	"lodestar/message"
)

// rig is an engine that a test asks.
type rig struct {
	t   *testing.T
	e   *Engine
	req uint32
}

// newRig gives an engine without anything, with these levels, whose cursors go when they were more than 5 ticks without use.
func newRig(t *testing.T, levels ...byte) *rig {
	return &rig{t: t, e: New(levels, 5), req: 1000}
}

// isRequest tells whether messages of a kind are requests.
func isRequest(kind byte) bool {
	return slices.Contains([]byte{api.Create, api.Drop, api.List, api.Write, api.Get, api.Search, api.Open, api.Fetch, api.Close, api.Stage, api.Chunk, api.Commit, api.Abort}, kind)
}

// do does x, and gives what its answer has beside its kind and its number. It wants these to be right, and requests to be counted, no others.
func (r *rig) do(owner uint64, now uint32, x api.Message) api.Message {
	r.t.Helper()
	r.req += 7
	x.Req = r.req
	done := r.e.Done()
	if isRequest(x.Kind) {
		done++
	}
	a := r.e.Do(owner, now, x)
	if a.Kind != api.Answer || a.Req != r.req {
		r.t.Fatalf("%+v: the answer %+v; want the kind %d and the number %d", x, a, api.Answer, r.req)
	}
	if r.e.Done() != done {
		r.t.Fatalf("%+v: %d requests done; want %d", x, r.e.Done(), done)
	}
	a.Kind, a.Req = 0, 0
	return a
}

// text tells all of a message. No list and an empty one are told alike.
func text(x any) string {
	return fmt.Sprintf("%+v", x)
}

// by wants x, asked by that owner at that tick, to be answered by want.
func (r *rig) by(owner uint64, now uint32, x, want api.Message) {
	r.t.Helper()
	if a := r.do(owner, now, x); text(a) != text(want) {
		r.t.Fatalf("%+v:\n%+v; want\n%+v", x, a, want)
	}
}

// want wants x, asked by the owner 7 at the tick 0, to be answered by want.
func (r *rig) want(x, want api.Message) {
	r.t.Helper()
	r.by(7, 0, x, want)
}

// ok wants x to be done, and to bring nothing.
func (r *rig) ok(x ...api.Message) {
	r.t.Helper()
	for _, y := range x {
		r.want(y, api.Message{})
	}
}

// failsBy wants x, asked by that owner at that tick, to fail so, and nothing to change.
func (r *rig) failsBy(owner uint64, now uint32, x api.Message, why api.Errno) {
	r.t.Helper()
	before := told(r.e)
	r.by(owner, now, x, api.Message{Code: byte(why)})
	r.unchanged(before, x)
}

// fails wants x, asked by the owner 7 at the tick 0, to fail so, and nothing to change.
func (r *rig) fails(x api.Message, why api.Errno) {
	r.t.Helper()
	r.failsBy(7, 0, x, why)
}

// asks wants x to be answered by want, and nothing to change.
func (r *rig) asks(x, want api.Message) {
	r.t.Helper()
	before := told(r.e)
	r.want(x, want)
	r.unchanged(before, x)
}

// unchanged wants the engine to tell what it told before x.
func (r *rig) unchanged(before string, x any) {
	r.t.Helper()
	if now := told(r.e); now != before {
		r.t.Fatalf("%+v has changed\n%s to\n%s", x, before, now)
	}
}

// told tells all that can be asked for, but how many requests were done.
func told(e *Engine) string {
	s := fmt.Sprintf("%d cursors, %d bytes, %d pins", e.Cursors(), e.Staged(), e.Pins())
	for _, name := range e.Names() {
		s += fmt.Sprintf("\n%q items %+v nodes %+v", name, e.Items(name), e.Nodes(name))
	}
	return s
}

// has wants there to be so many cursors, bytes of uploads, and pins.
func (r *rig) has(cursors, bytes, pins int) {
	r.t.Helper()
	if c, b, p := r.e.Cursors(), r.e.Staged(), r.e.Pins(); c != cursors || b != bytes || p != pins {
		r.t.Fatalf("%d cursors, %d bytes, %d pins; want %d, %d, %d", c, b, p, cursors, bytes, pins)
	}
}

// items wants these items to be there.
func (r *rig) items(name string, want ...api.Item) {
	r.t.Helper()
	if l := r.e.Items(name); text(l) != text(want) {
		r.t.Fatalf("%q has the items %+v; want %+v", name, l, want)
	}
}

// nodes wants a collection's index to have the nodes of x; of nil: there to be none.
func (r *rig) nodes(name string, x *hnsw.Index) {
	r.t.Helper()
	var want []api.Node
	if x != nil {
		want = x.Nodes()
	}
	if l := r.e.Nodes(name); text(l) != text(want) {
		r.t.Fatalf("%q has the nodes\n%+v; want\n%+v", name, l, want)
	}
}

// levels gives the level of each node of a collection's index.
func (r *rig) levels(name string) []int {
	var l []int
	for _, n := range r.e.Nodes(name) {
		l = append(l, len(n.Links)-1)
	}
	return l
}

// wantLevels wants the nodes of a collection's index to have these levels.
func (r *rig) wantLevels(name string, want ...int) {
	r.t.Helper()
	if l := r.levels(name); !slices.Equal(l, want) {
		r.t.Fatalf("%q has nodes of the levels %v; want %v", name, l, want)
	}
}

// makeIndex has a collection of one part searched, so that it has an index.
func (r *rig) makeIndex(name string) {
	r.t.Helper()
	if a := r.do(7, 0, search(name, 1, 0)); a.Code != 0 {
		r.t.Fatalf("search of %q: %+v", name, a)
	}
}

// flatConf gives a conf of vectors of one part, without a graph.
func flatConf(name string) api.Conf {
	return api.Conf{Name: name, Dim: 1}
}

// graphConf gives a conf of vectors of one part, with a graph.
func graphConf(name string) api.Conf {
	return api.Conf{Name: name, Dim: 1, Graph: true, Links: 2, Width: 4}
}

func create(c api.Conf) api.Message {
	return api.Message{Kind: api.Create, Conf: c}
}

func drop(name string) api.Message {
	return api.Message{Kind: api.Drop, Name: name}
}

func list() api.Message {
	return api.Message{Kind: api.List}
}

func write(name string, l ...api.Change) api.Message {
	return api.Message{Kind: api.Write, Name: name, Changes: l}
}

func get(name string, id uint32) api.Message {
	return api.Message{Kind: api.Get, Name: name, Id: id}
}

func search(name string, k uint16, vec ...int32) api.Message {
	return api.Message{Kind: api.Search, Name: name, K: k, Vec: vec}
}

func open(name string, vec ...int32) api.Message {
	return api.Message{Kind: api.Open, Name: name, Vec: vec}
}

func fetch(n, page uint32, k uint16) api.Message {
	return api.Message{Kind: api.Fetch, Num: n, Page: page, K: k}
}

func closing(n uint32) api.Message {
	return api.Message{Kind: api.Close, Num: n}
}

func staging(name string) api.Message {
	return api.Message{Kind: api.Stage, Name: name}
}

func chunk(n, page uint32, b []byte) api.Message {
	return api.Message{Kind: api.Chunk, Num: n, Page: page, Bytes: b}
}

func commit(n uint32) api.Message {
	return api.Message{Kind: api.Commit, Num: n}
}

func abort(n uint32) api.Message {
	return api.Message{Kind: api.Abort, Num: n}
}

// item gives an item of one part.
func item(id uint32, x int32, tags ...string) api.Item {
	return api.Item{Id: id, Vec: []int32{x}, Tags: tags}
}

// put gives a change by which that item is there.
func put(id uint32, x int32, tags ...string) api.Change {
	return api.Change{Item: item(id, x, tags...)}
}

// gone gives a change by which that item isn't there.
func gone(id uint32) api.Change {
	return api.Change{Gone: true, Item: api.Item{Id: id}}
}

// version is an answer that has a version alone.
func version(v uint64) api.Message {
	return api.Message{Version: v}
}

// number is an answer that has a number alone.
func number(n uint32) api.Message {
	return api.Message{Num: n}
}

// opened is the answer of an Open.
func opened(n uint32, v uint64) api.Message {
	return api.Message{Num: n, Version: v}
}

// found is the answer of a Search.
func found(v uint64, l ...api.Hit) api.Message {
	return api.Message{Version: v, Hits: l}
}

// paged is the answer of a Fetch.
func paged(n uint32, l ...api.Hit) api.Message {
	return api.Message{Num: n, Hits: l}
}

// hit gives the hit of an item.
func hit(dist int64, id uint32) api.Hit {
	return api.Hit{Dist: dist, Id: id}
}

// bytesOf gives changes as an upload has them.
func bytesOf(l ...api.Change) []byte {
	b, ok := message.PutChanges(l)
	if !ok {
		panic("changes that are no message's")
	}
	return b
}

// upload wants changes to be uploaded in two pieces by an owner, as the upload n, but not to be committed.
func (r *rig) upload(owner uint64, n uint32, name string, l ...api.Change) int {
	r.t.Helper()
	b := bytesOf(l...)
	r.by(owner, 0, staging(name), number(n))
	r.by(owner, 0, chunk(n, 1, b[:1]), api.Message{})
	r.by(owner, 0, chunk(n, 2, b[1:]), api.Message{})
	return len(b)
}

// fill wants a collection to have the items of the ids from 1 to n, each at its number, from the version v on, by as many writes as that takes. It gives the version then.
func (r *rig) fill(name string, n int, v uint64) uint64 {
	r.t.Helper()
	for id := 1; id <= n; {
		var l []api.Change
		for ; id <= n && len(l) < api.MaxBatch; id++ {
			l = append(l, put(uint32(id), int32(id)))
		}
		r.want(write(name, l...), version(v))
		v++
	}
	return v - 1
}

// newIndex gives an index of graphConf, without nodes.
func newIndex() *hnsw.Index {
	return hnsw.New(api.Square, 2, 4)
}
