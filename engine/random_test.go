package engine

import (
	"slices"
	"testing"

	"lodestar/api"
)

// anyConf gives a conf that may be, mostly.
func anyConf(d *dice, name string) api.Conf {
	c := api.Conf{Name: name, Dim: byte(1 + d.upTo(2)), Metric: api.Metric(d.upTo(2)), Graph: d.upTo(3) > 0}
	if c.Graph {
		c.Links, c.Width = byte(1+d.upTo(3)), uint16(1+d.upTo(6))
	}
	switch d.upTo(30) {
	case 0:
		c.Dim = 17
	case 1:
		c.Width = 257
	case 2:
		c.Name = ""
	}
	return c
}

// anyVec gives a vector that is right for a collection, mostly.
func (b *pair) anyVec(d *dice, name string) []int32 {
	v := []int32{int32(d.upTo(40) - 20), int32(d.upTo(40) - 20)}
	if c := b.s.find(name); c != nil {
		v = v[:c.conf.Dim]
	}
	switch d.upTo(60) {
	case 0:
		return nil
	case 1:
		v[0] = 1<<20 + 1
	}
	return v
}

// anyTags gives a few tags, rising.
func anyTags(d *dice) []string {
	var l []string
	for _, tag := range []string{"s", "t", "u"} {
		if d.upTo(3) == 0 {
			l = append(l, tag)
		}
	}
	return l
}

// anyFilter gives a filter that may be, mostly.
func anyFilter(d *dice) api.Filter {
	f := api.Filter{}
	switch d.upTo(9) {
	case 0:
		f.All = anyTags(d)
	case 1:
		f.Any = anyTags(d)
	case 2:
		f.None = anyTags(d)
	}
	if d.upTo(60) == 0 {
		f.None = append(f.None, "")
	}
	return f
}

// anyChanges gives up to most changes that may be written to a collection, mostly.
func (b *pair) anyChanges(d *dice, name string, most int) []api.Change {
	there := map[uint32]bool{}
	for _, y := range b.s.Items(name) {
		there[y.Id] = true
	}
	var l []api.Change
	for range d.upTo(most + 1) {
		id := uint32(1 + d.upTo(12))
		x := api.Change{Item: api.Item{Id: id, Vec: b.anyVec(d, name), Tags: anyTags(d)}}
		if there[id] && d.upTo(3) > 0 || d.upTo(100) == 0 {
			x = gone(id)
		}
		if d.upTo(100) == 0 {
			x.Item.Id = 0
		}
		there[id] = !x.Gone
		l = append(l, x)
	}
	return l
}

// anyOwn gives a number out of so many, mostly one that is there still, and its owner.
func anyOwn(d *dice, many int, owner func(at int) (uint64, bool)) (uint64, uint32) {
	for range 9 {
		n := d.upTo(many + 2)
		if n < 1 || n > many {
			continue
		}
		if o, there := owner(n - 1); there {
			return o, uint32(n)
		}
	}
	return uint64(d.upTo(3)), uint32(d.upTo(many + 2))
}

// anyCursor gives mostly the newest of the cursors that are there, and its owner.
func (b *pair) anyCursor(d *dice) (uint64, uint32) {
	return anyOwn(d, len(b.s.cursors), func(at int) (uint64, bool) { return b.s.cursors[at].owner, !b.s.cursors[at].ended })
}

// anyUpload gives mostly one of the uploads that are there, and its owner.
func (b *pair) anyUpload(d *dice) (uint64, uint32) {
	return anyOwn(d, len(b.s.uploads), func(at int) (uint64, bool) { return b.s.uploads[at].owner, !b.s.uploads[at].ended })
}

// fetchAny asks for some page of some cursor.
func (b *pair) fetchAny(d *dice, now uint32) {
	b.t.Helper()
	owner, n := b.anyCursor(d)
	page := d.upTo(4)
	if n > 0 && int(n) <= len(b.s.cursors) && d.upTo(6) > 0 {
		page = len(b.s.cursors[n-1].pages) + d.upTo(2)
	}
	k := uint16(1 + d.upTo(5))
	if d.upTo(20) == 0 {
		k = uint16(d.upTo(2) * 33)
	}
	b.do(owner, now, fetch(n, uint32(page), k))
}

// uploadAny begins an upload, goes on with one, or ends it.
func (b *pair) uploadAny(d *dice, name string) {
	b.t.Helper()
	owner, n := b.anyUpload(d)
	many := 0
	if n > 0 && int(n) <= len(b.s.uploads) {
		many = len(b.s.uploads[n-1].pieces)
		name = b.s.uploads[n-1].name
	}
	switch d.upTo(8) {
	case 0, 1:
		b.do(uint64(d.upTo(3)), 0, staging([]string{"a", "b", "g", "h"}[d.upTo(4)]))
	case 2:
		b.do(owner, 0, abort(n))
	case 3, 4:
		b.do(owner, 0, commit(n))
	case 5:
		b.do(owner, 0, chunk(n, uint32(d.upTo(4)), make([]byte, d.upTo(5000))))
	default:
		l := bytesOf(b.anyChanges(d, name, 30)...)
		if many == 0 {
			b.do(owner, 0, chunk(n, 1, l))
		} else {
			b.do(owner, 0, chunk(n, uint32(many+1), nil))
		}
	}
}

// step does to both what the dice say, at about the tick now.
func (b *pair) step(d *dice, now uint32) {
	b.t.Helper()
	names := []string{"a", "b", "g", "h", "a", "b", "g", "h", "c"}
	name, owner := names[d.upTo(len(names))], uint64(d.upTo(3))
	now -= uint32(d.upTo(3) * d.upTo(3) * d.upTo(2))
	switch d.upTo(26) {
	case 0, 1:
		b.do(owner, now, create(anyConf(d, name)))
	case 2:
		if d.upTo(4) == 0 {
			b.do(owner, now, drop(name))
		}
	case 3:
		b.do(owner, now, list())
		b.do(owner, now, get(name, uint32(d.upTo(14))))
	case 4, 5, 6:
		b.do(owner, now, open(name, b.anyVec(d, name)...))
	case 7:
		x := open(name, b.anyVec(d, name)...)
		x.Filter = anyFilter(d)
		b.do(owner, now, x)
	case 8:
		o, n := b.anyCursor(d)
		b.do(o, now, closing(n))
	case 9, 10, 11, 12:
		b.fetchAny(d, now)
	case 13, 14, 15:
		b.uploadAny(d, name)
	case 16:
		if d.upTo(6) == 0 {
			b.leave(owner)
		} else {
			b.tick(now)
		}
	case 17, 18, 19, 20:
		x := search(name, uint16(1+d.upTo(8)), b.anyVec(d, name)...)
		x.Filter, x.Width = anyFilter(d), uint16(d.upTo(3)*d.upTo(6))
		if d.upTo(20) == 0 {
			x.K, x.Width = uint16(d.upTo(34)), uint16(d.upTo(2)*257)
		}
		b.do(owner, now, x)
	default:
		b.do(owner, now, write(name, b.anyChanges(d, name, 1+d.upTo(17))...))
	}
}

func TestAsTheSlowOne(t *testing.T) {
	d := dice(3)
	times := map[string]int{}
	for i := range 1500 {
		b := newPair(t, [][]byte{nil, {1}, {0, 1, 2}, {0, 0, 3, 0, 1, 200}}[i%4], []uint32{5, 20, 0, 50}[i/4%4])
		b.times = times
		now := uint32(100)
		for n := range 90 {
			now += uint32(d.upTo(3))
			b.step(&d, now)
			if n%9 == 0 {
				b.alike()
			}
		}
		b.alike()
	}
	for _, came := range []string{
		"11 0 false", "11 1 false", "11 3 false", "12 0 false", "12 2 false", "13 0 false", "14 0 false", "14 1 false", "14 2 false", "14 5 false", "14 10 false",
		"14 11 false", "15 0 false", "15 2 false", "16 0 true", "16 0 false", "16 1 false", "16 2 false", "16 10 false", "16 11 false", "16 30 false", "17 0 false",
		"17 2 false", "17 10 false", "17 11 false", "17 30 false", "18 0 true", "18 0 false", "18 1 false", "18 140 false", "19 0 false", "19 140 false", "20 0 false",
		"20 2 false", "20 4 false", "21 0 false", "21 130 false", "21 4 false", "22 0 false", "22 130 false", "22 2 false", "22 60 false", "22 40 false", "23 0 false", "23 130 false",
	} {
		if times[came] < 10 {
			t.Errorf("%s: %d times", came, times[came])
		}
	}
}

// wantScripts does each script of so many of the steps, behind what begin does, and wants both engines to be alike.
func wantScripts(t *testing.T, long int, begin []api.Message, steps []func(b *pair)) {
	t.Helper()
	scripts := 1
	for range long {
		scripts *= len(steps)
	}
	for script := range scripts {
		b := newPair(t, []byte{0, 1}, 3)
		for _, x := range begin {
			b.do(1, 0, x)
		}
		for range long {
			steps[script%len(steps)](b)
			script /= len(steps)
		}
		b.alike()
		for n := range uint32(4) {
			b.do(1, 4, fetch(n, 1, 9))
			b.do(1, 4, fetch(n, 2, 9))
		}
	}
}

// asking gives a step that is a request of the owner 1 at the tick 0.
func asking(x api.Message) func(b *pair) {
	return func(b *pair) { b.do(1, 0, x) }
}

func TestEveryScriptOfFewSteps(t *testing.T) {
	for _, c := range []api.Conf{flatConf("g"), graphConf("g")} {
		wantScripts(t, 4, []api.Message{create(c)}, []func(b *pair){
			asking(write("g", put(1, 0), put(2, 3))),
			asking(write("g", gone(1), put(3, 1))),
			asking(search("g", 9, 1)),
			asking(open("g", 1)),
			asking(fetch(1, 1, 1)),
			asking(fetch(1, 2, 9)),
			asking(closing(1)),
			func(b *pair) { b.leave(1) },
			func(b *pair) { b.tick(4) },
			func(b *pair) { b.do(1, 0, drop("g")); b.do(1, 0, create(graphConf("g"))) },
		})
	}
}

func TestEveryScriptWithUploads(t *testing.T) {
	l := bytesOf(put(1, 5), gone(2))
	begin := []api.Message{create(graphConf("g")), write("g", put(2, 2)), search("g", 1, 1)}
	wantScripts(t, 4, begin, []func(b *pair){
		asking(staging("g")),
		asking(chunk(1, 1, l)),
		asking(chunk(1, 1, l[:2])),
		asking(chunk(1, 2, l[2:])),
		asking(commit(1)),
		asking(abort(1)),
		asking(write("g", put(2, 7))),
		asking(open("g", 1)),
		func(b *pair) { b.leave(1) },
		func(b *pair) { b.do(1, 0, drop("g")); b.do(1, 0, create(flatConf("g"))) },
	})
}

func TestEveryScriptAtASweep(t *testing.T) {
	begin := []api.Message{create(graphConf("g")), search("g", 1, 1), write("g", slices.Repeat([]api.Change{put(1, 1)}, 9)...)}
	wantScripts(t, 4, begin, []func(b *pair){
		asking(write("g", put(1, 3))),
		asking(write("g", gone(1))),
		asking(write("g", put(2, 2))),
		asking(write("g", put(2, 2), gone(2))),
		asking(write("g", put(3, 1), put(1, 9), put(1, 8))),
		asking(write("g")),
		asking(search("g", 9, 1)),
	})
}
