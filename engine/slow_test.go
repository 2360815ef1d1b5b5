package engine

import (
	"cmp"
	"fmt"
	"slices"
	"testing"

	"lodestar/api"
	"lodestar/hnsw"
	"lodestar/message"
)

// dice gives numbers from a fixed sequence.
type dice uint64

// upTo gives a number that is less than n.
func (d *dice) upTo(n int) int {
	*d = *d*6364136223846793005 + 1442695040888963407
	return int(uint64(*d) >> 33 % uint64(n))
}

// batch is what was done at once in an index, and how many items were there then.
type batch struct {
	changes []api.Change
	version uint64
	items   int
}

// slowColl is a collection of a slow engine, or one that was dropped.
type slowColl struct {
	conf    api.Conf
	items   []api.Item // by rising ids
	made    bool
	batches []batch // since its index was made, and what that was made of
	dropped bool
}

// slowCursor is a cursor of a slow engine, or one that has gone. It has copies of the items.
type slowCursor struct {
	owner uint64
	coll  *slowColl
	items []api.Item
	ask   api.Message
	pages [][]api.Hit
	used  uint32
	ended bool
}

// slowUpload is an upload of a slow engine, or one that has gone.
type slowUpload struct {
	owner  uint64
	name   string
	pieces [][]byte
	ended  bool
}

// slow is an engine that forgets nothing, finds all by looking at everything, and has an index anew whenever it is asked for.
type slow struct {
	levels  []byte
	idle    uint32
	version uint64
	done    uint64
	colls   []*slowColl
	cursors []*slowCursor // the one of the number n stands at n - 1
	uploads []*slowUpload // likewise
}

func (s *slow) find(name string) *slowColl {
	for _, c := range s.colls {
		if c.conf.Name == name && !c.dropped {
			return c
		}
	}
	return nil
}

func (s *slow) Names() []string {
	var l []string
	for _, c := range s.colls {
		if !c.dropped {
			l = append(l, c.conf.Name)
		}
	}
	slices.Sort(l)
	return l
}

func (s *slow) Items(name string) []api.Item {
	if c := s.find(name); c != nil {
		return c.items
	}
	return nil
}

func (s *slow) Nodes(name string) []api.Node {
	if c := s.find(name); c != nil && c.made {
		return c.index(s.levels).Nodes()
	}
	return nil
}

// index gives the index of c, from its first change on.
func (c *slowColl) index(levels []byte) *hnsw.Index {
	x := hnsw.New(c.conf.Metric, int(c.conf.Links), int(c.conf.Width))
	nodes := 0
	for _, b := range c.batches {
		for _, y := range b.changes {
			if y.Gone {
				x.Cut(y.Item.Id, b.version)
				continue
			}
			level := byte(0)
			if levels != nil {
				level = levels[nodes%len(levels)]
			}
			x.Put(y.Item, int(level), b.version)
			nodes++
		}
		if x.Len()-2*b.items > 8 {
			x.Sweep(nil)
		}
	}
	return x
}

func (s *slow) Cursors() int {
	many := 0
	for _, c := range s.cursors {
		if !c.ended {
			many++
		}
	}
	return many
}

func (s *slow) Pins() int {
	many := 0
	for _, c := range s.cursors {
		if !c.ended && !c.coll.dropped {
			many++
		}
	}
	return many
}

func (s *slow) Staged() int {
	many := 0
	for _, u := range s.uploads {
		if !u.ended {
			many += len(slices.Concat(u.pieces...))
		}
	}
	return many
}

func (s *slow) Leave(owner uint64) {
	for _, c := range s.cursors {
		c.ended = c.ended || c.owner == owner
	}
	for _, u := range s.uploads {
		u.ended = u.ended || u.owner == owner
	}
}

func (s *slow) Tick(now uint32) {
	for _, c := range s.cursors {
		c.ended = c.ended || int64(now)-int64(c.used) > int64(s.idle)
	}
}

// slowMayBe tells whether there may be a collection of a conf.
func slowMayBe(c api.Conf) bool {
	named := len(c.Name) > 0 && len(c.Name) <= 16 && c.Dim > 0 && c.Dim <= 16 && c.Metric < 2
	if c.Graph {
		return named && c.Links > 0 && c.Links <= 8 && c.Width > 0 && c.Width <= 256
	}
	return named && c.Links == 0 && c.Width == 0
}

// slowVec tells why a vector may not be.
func slowVec(v []int32, dim byte) api.Errno {
	if len(v) != int(dim) {
		return api.ErrDim
	}
	for _, part := range v {
		if part > 1<<20 || part < -1<<20 {
			return api.ErrPart
		}
	}
	return api.OK
}

// slowFine tells why x isn't fine for a collection.
func slowFine(c *slowColl, x api.Message) api.Errno {
	if why := slowVec(x.Vec, c.conf.Dim); why != api.OK {
		return why
	}
	for _, l := range [][]string{x.Filter.All, x.Filter.Any, x.Filter.None} {
		if len(l) > 8 || slices.ContainsFunc(l, func(tag string) bool { return len(tag) < 1 || len(tag) > 16 }) {
			return api.ErrTag
		}
	}
	return api.OK
}

// slowRank gives all hits of items by what x asks for, in order.
func slowRank(m api.Metric, items []api.Item, x api.Message) []api.Hit {
	var l []api.Hit
	for _, y := range items {
		has := func(tag string) bool { return slices.Contains(y.Tags, tag) }
		lacks := func(tag string) bool { return !has(tag) }
		f := x.Filter
		if slices.ContainsFunc(f.All, lacks) || len(f.Any) > 0 && !slices.ContainsFunc(f.Any, has) || slices.ContainsFunc(f.None, has) {
			continue
		}
		h := api.Hit{Id: y.Id}
		for i, part := range y.Vec {
			if p, q := int64(part), int64(x.Vec[i]); m == api.Square {
				h.Dist += (p - q) * (p - q)
			} else {
				h.Dist -= p * q
			}
		}
		l = append(l, h)
	}
	slices.SortFunc(l, func(a, b api.Hit) int { return cmp.Or(cmp.Compare(a.Dist, b.Dist), cmp.Compare(a.Id, b.Id)) })
	return l
}

// Do answers by the chapter's table, row by row.
func (s *slow) Do(owner uint64, now uint32, x api.Message) api.Message {
	a := api.Message{Kind: api.Answer, Req: x.Req}
	if isRequest(x.Kind) {
		s.done++
	}
	why := s.do(owner, now, x, &a)
	if why != api.OK {
		a = api.Message{Kind: api.Answer, Req: x.Req, Code: byte(why)}
	}
	return a
}

func (s *slow) do(owner uint64, now uint32, x api.Message, a *api.Message) api.Errno {
	c := s.find(x.Name)
	switch x.Kind {
	case api.Create:
		return s.create(x.Conf)
	case api.List:
		a.Names = s.Names()
		return api.OK
	case api.Fetch:
		return s.fetch(owner, now, x, a)
	case api.Close:
		if s.cursor(owner, x.Num) == nil {
			return api.ErrCursor
		}
		s.cursors[x.Num-1].ended = true
		return api.OK
	case api.Chunk, api.Commit, api.Abort:
		return s.goOn(owner, x, a)
	case api.Write:
		if len(x.Changes) > 16 {
			return api.ErrLong
		}
		return s.write(c, x.Changes, a)
	case api.Drop, api.Get, api.Search, api.Open, api.Stage:
		if c == nil {
			return api.ErrNone
		}
		return s.of(c, owner, now, x, a)
	}
	return api.ErrKind
}

// of does a request for a collection that is there.
func (s *slow) of(c *slowColl, owner uint64, now uint32, x api.Message, a *api.Message) api.Errno {
	switch x.Kind {
	case api.Drop:
		c.dropped = true
	case api.Get:
		at := slices.IndexFunc(c.items, func(y api.Item) bool { return y.Id == x.Id })
		if at < 0 {
			return api.ErrNone
		}
		a.Items = c.items[at : at+1]
	case api.Search:
		return s.search(c, x, a)
	case api.Open:
		if why := slowFine(c, x); why != api.OK {
			return why
		}
		s.open(&slowCursor{owner: owner, coll: c, items: slices.Clone(c.items), ask: x, used: now})
		a.Num, a.Version = uint32(len(s.cursors)), s.version
	case api.Stage:
		many := 0
		for _, u := range s.uploads {
			if !u.ended {
				many++
			}
		}
		if many == 4 {
			return api.ErrFull
		}
		s.uploads = append(s.uploads, &slowUpload{owner: owner, name: x.Name})
		a.Num = uint32(len(s.uploads))
	}
	return api.OK
}

func (s *slow) create(c api.Conf) api.Errno {
	switch {
	case !slowMayBe(c):
		return api.ErrArg
	case s.find(c.Name) != nil:
		return api.ErrThere
	case len(s.Names()) == 8:
		return api.ErrFull
	}
	s.colls = append(s.colls, &slowColl{conf: c})
	return api.OK
}

func (s *slow) write(c *slowColl, l []api.Change, a *api.Message) api.Errno {
	if c == nil {
		return api.ErrNone
	}
	items := slices.Clone(c.items)
	for _, x := range l {
		if x.Item.Id == 0 {
			return api.ErrArg
		}
		before := len(items)
		if !x.Gone {
			if why := slowVec(x.Item.Vec, c.conf.Dim); why != api.OK {
				return why
			}
			if !slices.IsSorted(x.Item.Tags) || slices.Contains(x.Item.Tags, "") {
				return api.ErrTag
			}
		}
		items = slices.DeleteFunc(items, func(y api.Item) bool { return y.Id == x.Item.Id })
		if x.Gone && len(items) == before {
			return api.ErrNone
		}
		if !x.Gone {
			items = append(items, x.Item)
		}
	}
	if len(l) > 0 {
		s.version++
		slices.SortFunc(items, func(x, y api.Item) int { return cmp.Compare(x.Id, y.Id) })
		c.items = items
		if c.made {
			c.batches = append(c.batches, batch{l, s.version, len(items)})
		}
	}
	a.Version = s.version
	return api.OK
}

func (s *slow) search(c *slowColl, x api.Message, a *api.Message) api.Errno {
	if x.K < 1 || x.K > 32 || x.Width > 256 {
		return api.ErrArg
	}
	if why := slowFine(c, x); why != api.OK {
		return why
	}
	a.Version = s.version
	if !c.conf.Graph {
		l := slowRank(c.conf.Metric, c.items, x)
		a.Hits = l[:min(len(l), int(x.K))]
		return api.OK
	}
	if !c.made {
		var l []api.Change
		for _, y := range c.items {
			l = append(l, api.Change{Item: y})
		}
		c.made, c.batches = true, []batch{{l, s.version, len(l)}}
	}
	width := int(cmp.Or(x.Width, c.conf.Width))
	a.Hits = c.index(s.levels).Search(x.Vec, x.Filter, int(x.K), width, s.version)
	return api.OK
}

// open opens a cursor. If there are as many as may be, the one that was without use for the longest goes.
func (s *slow) open(c *slowCursor) {
	if s.Cursors() == 8 {
		var goes *slowCursor
		for _, other := range s.cursors {
			if !other.ended && (goes == nil || other.used < goes.used) {
				goes = other
			}
		}
		goes.ended = true
	}
	s.cursors = append(s.cursors, c)
}

// cursor gives a cursor of that owner; nil, if there is none.
func (s *slow) cursor(owner uint64, n uint32) *slowCursor {
	if n == 0 || int(n) > len(s.cursors) || s.cursors[n-1].ended || s.cursors[n-1].owner != owner {
		return nil
	}
	return s.cursors[n-1]
}

func (s *slow) fetch(owner uint64, now uint32, x api.Message, a *api.Message) api.Errno {
	c := s.cursor(owner, x.Num)
	switch {
	case x.K < 1 || x.K > 32:
		return api.ErrArg
	case c == nil:
		return api.ErrCursor
	case x.Page == 0 || int(x.Page) != len(c.pages) && int(x.Page) != len(c.pages)+1:
		return api.ErrArg
	}
	c.used = now
	if c.coll.dropped {
		c.ended = true
		return api.ErrCursor
	}
	told := len(slices.Concat(c.pages[:x.Page-1]...))
	rest := slowRank(c.coll.conf.Metric, c.items, c.ask)[told:]
	a.Num, a.Hits = x.Num, rest[:min(len(rest), int(x.K))]
	c.pages = append(c.pages[:x.Page-1], a.Hits)
	return api.OK
}

// goOn goes on with an upload.
func (s *slow) goOn(owner uint64, x api.Message, a *api.Message) api.Errno {
	if x.Num == 0 || int(x.Num) > len(s.uploads) || s.uploads[x.Num-1].ended || s.uploads[x.Num-1].owner != owner {
		return api.ErrStage
	}
	u := s.uploads[x.Num-1]
	switch x.Kind {
	case api.Chunk:
		if int(x.Page) != len(u.pieces)+1 {
			return api.ErrStage
		}
		if len(slices.Concat(u.pieces...))+len(x.Bytes) > 4096 {
			return api.ErrFull
		}
		u.pieces = append(u.pieces, x.Bytes)
	case api.Commit:
		u.ended = true
		l, why := message.GetChanges(slices.Concat(u.pieces...))
		if why != api.OK {
			return why
		}
		return s.write(s.find(u.name), l, a)
	case api.Abort:
		u.ended = true
	}
	return api.OK
}

// pair is an engine, and a slow one to which the same is done.
type pair struct {
	t     *testing.T
	p     *Engine
	s     *slow
	done  []string
	times map[string]int // how often what came of what
}

func newPair(t *testing.T, levels []byte, idle uint32) *pair {
	return &pair{t: t, p: New(levels, idle), s: &slow{levels: levels, idle: idle}, times: map[string]int{}}
}

// do does a request to both, and wants both to answer the same.
func (b *pair) do(owner uint64, now uint32, x api.Message) {
	b.t.Helper()
	x.Req = uint32(len(b.done) + 50)
	b.done = append(b.done, fmt.Sprintf("%d %d %+v", owner, now, x))
	got, want := b.p.Do(owner, now, x), b.s.Do(owner, now, x)
	b.times[fmt.Sprint(x.Kind, " ", want.Code, " ", len(want.Hits) > 0)]++
	if text(got) != text(want) {
		b.t.Fatalf("%q:\n%+v; the slow one\n%+v", b.done, got, want)
	}
	b.counted()
}

func (b *pair) leave(owner uint64) {
	b.t.Helper()
	b.done = append(b.done, fmt.Sprint("Leave ", owner))
	b.p.Leave(owner)
	b.s.Leave(owner)
	b.counted()
}

func (b *pair) tick(now uint32) {
	b.t.Helper()
	b.done = append(b.done, fmt.Sprint("Tick ", now))
	b.p.Tick(now)
	b.s.Tick(now)
	b.counted()
}

// counted wants both to have as many of everything.
func (b *pair) counted() {
	b.t.Helper()
	got := []int{b.p.Cursors(), b.p.Staged(), b.p.Pins(), int(b.p.Done())}
	want := []int{b.s.Cursors(), b.s.Staged(), b.s.Pins(), int(b.s.done)}
	if !slices.Equal(got, want) {
		b.t.Fatalf("%q:\n%v cursors, bytes, pins, requests done; the slow one %v", b.done, got, want)
	}
}

// alike wants both to have the same collections, items and nodes.
func (b *pair) alike() {
	b.t.Helper()
	if got, want := b.p.Names(), b.s.Names(); !slices.Equal(got, want) {
		b.t.Fatalf("%q:\n%v; the slow one %v", b.done, got, want)
	}
	for _, name := range []string{"a", "b", "c", "g", "h"} {
		if got, want := text(b.p.Items(name)), text(b.s.Items(name)); got != want {
			b.t.Fatalf("%q:\nitems of %q: %s; the slow one %s", b.done, name, got, want)
		}
		if got, want := text(b.p.Nodes(name)), text(b.s.Nodes(name)); got != want {
			b.t.Fatalf("%q:\nnodes of %q: %s; the slow one %s", b.done, name, got, want)
		}
	}
}
