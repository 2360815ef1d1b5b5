package store

import (
	"cmp"
	"fmt"
	"math"
	"slices"
	"testing"

	"lodestar/api"
)

// laid is a row of a slow collection.
type laid struct {
	version uint64
	gone    bool
	item    api.Item
}

// slowColl is a collection of a slow store. It has all rows that were ever laid, and the items as they are.
type slowColl struct {
	conf  api.Conf
	rows  []laid
	items []api.Item
}

// slowPin is a pin of a slow store. It has a copy of the items.
type slowPin struct {
	number  int
	coll    *slowColl
	version uint64
	items   []api.Item
}

// slow is a store that keeps everything as whole lists, and finds all word by word as the chapter has it.
type slow struct {
	version uint64
	colls   []*slowColl
	pins    []slowPin
	given   int
}

func (s *slow) find(name string) *slowColl {
	for _, c := range s.colls {
		if c.conf.Name == name {
			return c
		}
	}
	return nil
}

func slowMayBe(c api.Conf) bool {
	if len(c.Name) < 1 || len(c.Name) > 16 || c.Dim < 1 || c.Dim > 16 {
		return false
	}
	if c.Metric != api.Square && c.Metric != api.Minus {
		return false
	}
	if c.Graph {
		return c.Links >= 1 && c.Links <= 8 && c.Width >= 1 && c.Width <= 256
	}
	return c.Links == 0 && c.Width == 0
}

func (s *slow) Create(c api.Conf) api.Errno {
	switch {
	case !slowMayBe(c):
		return api.ErrArg
	case s.find(c.Name) != nil:
		return api.ErrThere
	case len(s.colls) == 8:
		return api.ErrFull
	}
	s.colls = append(s.colls, &slowColl{conf: c})
	return api.OK
}

func (s *slow) Drop(name string) api.Errno {
	c := s.find(name)
	if c == nil {
		return api.ErrNone
	}
	s.pins = slices.DeleteFunc(s.pins, func(p slowPin) bool { return p.coll == c })
	s.colls = slices.DeleteFunc(s.colls, func(d *slowColl) bool { return d == c })
	return api.OK
}

func (s *slow) Names() []string {
	var l []string
	for _, c := range s.colls {
		l = append(l, c.conf.Name)
	}
	slices.Sort(l)
	return l
}

func (s *slow) Conf(name string) (api.Conf, bool) {
	if c := s.find(name); c != nil {
		return c.conf, true
	}
	return api.Conf{}, false
}

// slowChange gives the error of x for a conf, if it may not be.
func slowChange(c api.Conf, x api.Change) api.Errno {
	if x.Item.Id == 0 {
		return api.ErrArg
	}
	if x.Gone {
		return api.OK
	}
	if len(x.Item.Vec) != int(c.Dim) {
		return api.ErrDim
	}
	for _, part := range x.Item.Vec {
		if part > 1<<20 || part < -1<<20 {
			return api.ErrPart
		}
	}
	if len(x.Item.Tags) > 8 {
		return api.ErrTag
	}
	for i, tag := range x.Item.Tags {
		if len(tag) < 1 || len(tag) > 16 || i > 0 && x.Item.Tags[i-1] >= tag {
			return api.ErrTag
		}
	}
	return api.OK
}

// placeOf gives where the item of that id stands; -1, if it isn't there.
func placeOf(l []api.Item, id uint32) int {
	return slices.IndexFunc(l, func(x api.Item) bool { return x.Id == id })
}

func (s *slow) Write(name string, l []api.Change) (uint64, api.Errno) {
	c := s.find(name)
	if c == nil {
		return 0, api.ErrNone
	}
	if len(l) > 128 {
		return 0, api.ErrFull
	}
	items, rows := slices.Clone(c.items), slices.Clone(c.rows)
	for _, x := range l {
		if e := slowChange(c.conf, x); e != api.OK {
			return 0, e
		}
		at := placeOf(items, x.Item.Id)
		if x.Gone && at < 0 {
			return 0, api.ErrNone
		}
		if at >= 0 {
			items = slices.Delete(items, at, at+1)
		}
		if !x.Gone {
			items = append(items, deep(x.Item))
		}
		rows = append(rows, laid{s.version + 1, x.Gone, deep(x.Item)})
	}
	switch {
	case len(items) > 128:
		return 0, api.ErrFull
	case s.version == 1<<30:
		return 0, api.ErrCount
	case s.Rows(name)+len(l) > 1024:
		return 0, api.ErrFull
	}
	if len(l) > 0 {
		c.items, c.rows = items, rows
		slices.SortFunc(c.items, func(a, b api.Item) int { return cmp.Compare(a.Id, b.Id) })
		s.version++
	}
	return s.version, api.OK
}

func (s *slow) Get(name string, id uint32) (api.Item, api.Errno) {
	c := s.find(name)
	if c == nil || placeOf(c.items, id) < 0 {
		return api.Item{}, api.ErrNone
	}
	return c.items[placeOf(c.items, id)], api.OK
}

func (s *slow) Size(name string) int {
	if c := s.find(name); c != nil {
		return len(c.items)
	}
	return 0
}

func (s *slow) Version() uint64 {
	return s.version
}

func (s *slow) Pin(name string) (int, uint64, api.Errno) {
	c := s.find(name)
	if c == nil {
		return 0, 0, api.ErrNone
	}
	s.given++
	var items []api.Item
	for _, x := range c.items {
		items = append(items, deep(x))
	}
	s.pins = append(s.pins, slowPin{s.given, c, s.version, items})
	return s.given, s.version, api.OK
}

func (s *slow) Unpin(n int) bool {
	before := len(s.pins)
	s.pins = slices.DeleteFunc(s.pins, func(p slowPin) bool { return p.number == n })
	return len(s.pins) < before
}

func (s *slow) Pinned(n int) ([]api.Item, api.Conf, api.Errno) {
	for _, p := range s.pins {
		if p.number == n {
			return p.items, p.coll.conf, api.OK
		}
	}
	return nil, api.Conf{}, api.ErrGone
}

func (s *slow) Pins() int {
	return len(s.pins)
}

// Rows counts those of all rows that were ever laid that are needed: by a pin, or now.
func (s *slow) Rows(name string) int {
	c := s.find(name)
	if c == nil {
		return 0
	}
	versions := []uint64{s.version}
	for _, p := range s.pins {
		if p.coll == c {
			versions = append(versions, p.version)
		}
	}
	n := 0
	elder := map[uint32]bool{}
	seen := c.seen(versions)
	for i, r := range c.rows {
		if seen[i] && (!r.gone || elder[r.item.Id]) {
			elder[r.item.Id] = true
			n++
		}
	}
	return n
}

// seen gives the places of the rows that are their ids' at one of those versions.
func (c *slowColl) seen(versions []uint64) map[int]bool {
	m := map[int]bool{}
	for _, v := range versions {
		at := map[uint32]int{}
		for i, r := range c.rows {
			if r.version <= v {
				at[r.item.Id] = i
			}
		}
		for _, i := range at {
			m[i] = true
		}
	}
	return m
}

// deep copies an item, vector and tags too.
func deep(x api.Item) api.Item {
	x.Vec, x.Tags = slices.Clone(x.Vec), slices.Clone(x.Tags)
	return x
}

// same tells whether two items are alike. No list and an empty one are.
func same(a, b api.Item) bool {
	return a.Id == b.Id && slices.Equal(a.Vec, b.Vec) && slices.Equal(a.Tags, b.Tags)
}

// pair is a store, and a slow one to which the same is done.
type pair struct {
	t    *testing.T
	p    *Store
	s    *slow
	done []string // what was done to both
}

func newPair(t *testing.T) *pair {
	return &pair{t: t, p: New(), s: &slow{}}
}

// did notes what is done, and wants both to answer the same.
func (b *pair) did(what string, got, want any) {
	b.t.Helper()
	b.done = append(b.done, what)
	if got, want := fmt.Sprint(got), fmt.Sprint(want); got != want {
		b.t.Fatalf("%v: %s; the slow one %s", b.done, got, want)
	}
}

func (b *pair) create(c api.Conf) {
	b.t.Helper()
	b.did(fmt.Sprint("Create ", c), b.p.Create(c), b.s.Create(c))
}

func (b *pair) drop(name string) {
	b.t.Helper()
	b.did("Drop "+name, b.p.Drop(name), b.s.Drop(name))
}

func (b *pair) write(name string, l []api.Change) api.Errno {
	b.t.Helper()
	v, e := b.p.Write(name, l)
	want, wantErr := b.s.Write(name, l)
	b.did(fmt.Sprint("Write ", name, l), []any{v, e}, []any{want, wantErr})
	return e
}

func (b *pair) pin(name string) {
	b.t.Helper()
	n, v, e := b.p.Pin(name)
	m, w, f := b.s.Pin(name)
	b.did("Pin "+name, []any{n, v, e}, []any{m, w, f})
}

func (b *pair) unpin(n int) {
	b.t.Helper()
	b.did(fmt.Sprint("Unpin ", n), b.p.Unpin(n), b.s.Unpin(n))
}

// wantAlike wants both to tell the same of all collections, of all pins, and of all ids.
func (b *pair) wantAlike() {
	b.t.Helper()
	names := append(b.s.Names(), "", "nobody")
	got := []any{b.p.Names(), b.p.Version(), b.p.Pins()}
	want := []any{b.s.Names(), b.s.Version(), b.s.Pins()}
	for _, name := range names {
		c, ok := b.p.Conf(name)
		d, there := b.s.Conf(name)
		got = append(got, c, ok, b.p.Size(name), b.p.Rows(name))
		want = append(want, d, there, b.s.Size(name), b.s.Rows(name))
		for _, id := range b.ids(name) {
			b.wantGetAlike(name, id)
		}
	}
	for n := -1; n < b.s.given+3; n++ {
		b.wantPinnedAlike(n)
	}
	b.did("", got, want)
	b.done = b.done[:len(b.done)-1]
}

func (b *pair) wantGetAlike(name string, id uint32) {
	b.t.Helper()
	got, e := b.p.Get(name, id)
	if want, wantErr := b.s.Get(name, id); e != wantErr || !same(got, want) {
		b.t.Fatalf("%v: Get(%q, %d) = %v, %d; want %v, %d", b.done, name, id, got, e, want, wantErr)
	}
}

func (b *pair) wantPinnedAlike(n int) {
	b.t.Helper()
	got, c, e := b.p.Pinned(n)
	if want, d, wantErr := b.s.Pinned(n); e != wantErr || c != d || !slices.EqualFunc(got, want, same) {
		b.t.Fatalf("%v: Pinned(%d) = %v, %v, %d; want %v, %v, %d", b.done, n, got, c, e, want, d, wantErr)
	}
}

// ids gives those of all rows of a collection, and the ends.
func (b *pair) ids(name string) []uint32 {
	l := []uint32{0, 1, math.MaxUint32}
	if c := b.s.find(name); c != nil {
		for _, r := range c.rows {
			l = append(l, r.item.Id)
		}
	}
	slices.Sort(l)
	return slices.Compact(l)
}
