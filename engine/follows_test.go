package engine

import (
	"fmt"
	"reflect"
	"slices"
	"strconv"
	"strings"
	"testing"

	"lodestar/api"
)

// P15.3

// busy gives an engine that has something of everything: the items 1 to 20 in a (by a graph; with an index that has more nodes than items) and f, three cursors and two uploads.
func busy(t *testing.T) *rig {
	t.Helper()
	r, v := withItems(t, graphConf("a"), 20)
	r.makeIndex("a")
	r.want(write("a", put(3, 4), put(4, 3, "t"), gone(20)), version(v+1))
	r.ok(create(flatConf("f")), create(graphConf("g")))
	r.fill("f", 20, v+2)
	r.want(write("g", put(1, 1)), version(v+4))
	for n, name := range []string{"a", "f", "a"} {
		r.want(open(name, 0), opened(uint32(n+1), v+4))
	}
	r.want(fetch(2, 1, 2), paged(2, away(1, 2)...))
	r.upload(7, 1, "a", put(30, 30))
	r.by(8, 0, staging("a"), number(2))
	return r
}

// rest tells what a busy engine answers from now on.
func rest(r *rig) string {
	var l []string
	do := func(owner uint64, x api.Message) { l = append(l, text(r.do(owner, 9, x))) }
	for n := uint32(1); n <= 4; n++ {
		do(7, fetch(n, 1, 5))
		do(7, fetch(n, 2, 5))
	}
	do(7, commit(1))
	do(7, staging("g"))
	do(7, open("g", 1))
	do(7, write("a", put(5, 9), put(40, 1)))
	do(7, search("a", 32, 7))
	do(7, search("f", 32, 7))
	r.e.Tick(14)
	l = append(l, told(r.e))
	r.e.Tick(15)
	r.e.Leave(8)
	return strings.Join(append(l, told(r.e)), "\n")
}

func TestWhatAsksOrFailsChangesNothing(t *testing.T) {
	want := rest(busy(t))
	wrong := search("a", 1, 1)
	wrong.Filter.Any = []string{""}
	long := make([]api.Change, api.MaxBatch+1)
	for _, x := range []struct {
		ask api.Message
		why api.Errno
	}{
		{list(), 0}, {get("a", 3), 0}, {get("f", 20), 0}, {search("a", 32, 5), 0}, {search("f", 3, 5), 0}, {askOf(search("a", 1, 1), "t"), 0},
		{create(flatConf("a")), api.ErrThere}, {create(api.Conf{}), api.ErrArg}, {drop("h"), api.ErrNone}, {write("h"), api.ErrNone},
		{write("a", long...), api.ErrLong}, {write("a", put(1, 9), gone(1), put(50, 5), gone(51)), api.ErrNone}, {write("a", put(1, 2), put(0, 1)), api.ErrArg},
		{write("f", gone(1), api.Change{Item: api.Item{Id: 3}}), api.ErrDim}, {write("f", gone(1), put(1, 1<<21)), api.ErrPart},
		{write("a", gone(1), put(1, 1, "")), api.ErrTag}, {get("a", 20), api.ErrNone}, {get("h", 1), api.ErrNone},
		{search("g", 0, 1), api.ErrArg}, {search("g", 1), api.ErrDim}, {search("h", 1, 1), api.ErrNone}, {wrong, api.ErrTag},
		{open("h", 1), api.ErrNone}, {open("a"), api.ErrDim}, {open("a", 1<<21), api.ErrPart}, {fetch(1, 1, 0), api.ErrArg}, {fetch(1, 2, 1), api.ErrArg},
		{fetch(2, 3, 1), api.ErrArg}, {fetch(4, 1, 1), api.ErrCursor}, {closing(4), api.ErrCursor}, {staging("h"), api.ErrNone},
		{chunk(1, 2, nil), api.ErrStage}, {chunk(2, 1, nil), api.ErrStage}, {chunk(1, 3, make([]byte, api.MaxStaged)), api.ErrFull},
		{commit(2), api.ErrStage}, {commit(3), api.ErrStage}, {abort(2), api.ErrStage}, {abort(3), api.ErrStage}, {api.Message{Kind: api.Ping, N: 1}, api.ErrKind},
	} {
		r := busy(t)
		before := told(r.e)
		for range 3 {
			if a := r.do(7, 0, x.ask); api.Errno(a.Code) != x.why {
				t.Fatalf("%+v: %+v; want %d", x.ask, a, x.why)
			}
			r.unchanged(before, x.ask)
		}
		if got := rest(r); got != want {
			t.Errorf("behind %+v:\n%s; want\n%s", x.ask, got, want)
		}
	}
}

// askOf gives x with a filter that wants a tag.
func askOf(x api.Message, tag string) api.Message {
	x.Filter.All = []string{tag}
	return x
}

func TestASearchMayMakeAnIndex(t *testing.T) {
	r := busy(t)
	r.want(search("g", 1, 1), found(6, hit(0, 1)))
	if len(r.e.Nodes("g")) != 1 {
		t.Errorf("%+v", r.e.Nodes("g"))
	}
	if got, want := withoutNodesOf(rest(r), "g"), withoutNodesOf(rest(busy(t)), "g"); got != want {
		t.Errorf("%s; want\n%s", got, want)
	}
}

// withoutNodesOf gives lines without what they tell of a collection's nodes.
func withoutNodesOf(s, name string) string {
	l := strings.Split(s, "\n")
	for i, line := range l {
		if ahead, _, ok := strings.Cut(line, " nodes "); ok && strings.HasPrefix(line, strconv.Quote(name)) {
			l[i] = ahead
		}
	}
	return strings.Join(l, "\n")
}

func TestAskingWhatThereIsChangesNothing(t *testing.T) {
	x, y := busy(t), busy(t)
	for range 50 {
		told(y.e)
		y.e.Items("h")
		y.e.Nodes("h")
		y.e.Done()
	}
	if got, want := rest(y), rest(x); got != want {
		t.Errorf("%s; want\n%s", got, want)
	}
}

// P15.4

func TestPagesAreWhatWasThereWhateverIsWritten(t *testing.T) {
	for _, c := range []api.Conf{flatConf("a"), graphConf("a")} {
		d := dice(21)
		for range 40 {
			r, v := withItems(t, c, 40)
			r.ok(create(flatConf("b")))
			r.want(write("b", put(1, 1)), version(v+1))
			r.want(open("a", 0), opened(1, v+1))
			told := uint32(0)
			for page := uint32(1); told < 40; page++ {
				k := uint32(1 + d.upTo(6))
				last := min(told+k, 40)
				for range 1 + d.upTo(2) {
					r.disturb(&d)
					r.want(fetch(1, page, uint16(k)), paged(1, away(told+1, last)...))
				}
				told = last
			}
			r.has(1, 0, 1)
		}
	}
}

// disturb does something that changes a or b.
func (r *rig) disturb(d *dice) {
	for range d.upTo(4) {
		id := uint32(1 + d.upTo(50))
		switch d.upTo(7) {
		case 0, 1:
			r.do(8, 0, write("a", gone(id)))
		case 2, 3:
			r.do(8, 0, write("a", put(id, int32(d.upTo(90))), put(id+1, 3)))
		case 4:
			r.do(8, 0, drop("b"))
			r.do(8, 0, create(graphConf("b")))
		case 5:
			r.do(8, 0, search("a", 9, 9))
			r.do(8, 0, write("b", put(id, 1)))
		case 6:
			n := r.do(8, 0, staging("a")).Num
			r.do(8, 0, chunk(n, 1, bytesOf(put(id, 1), put(id+1, 2), gone(id))))
			r.do(8, 0, commit(n))
		}
	}
}

func TestPagesOfSeveralCursorsAtOnce(t *testing.T) {
	r := newRig(t, 1, 0)
	r.ok(create(graphConf("a")))
	for v := uint32(1); v <= 8; v++ {
		r.want(write("a", put(v, int32(v))), version(uint64(v)))
		r.want(open("a", 0), opened(v, uint64(v)))
	}
	for page := uint32(1); page <= 8; page++ {
		for n := uint32(1); n <= 8; n++ {
			if page > n {
				r.want(fetch(n, page, 1), paged(n))
			} else {
				r.want(fetch(n, page, 1), paged(n, away(page, page)...))
			}
		}
		r.do(8, 0, write("a", put(page, 100)))
	}
}

// DOC.md's rules

// everyList gives all lists of all messages of a script, each with spare room.
func everyList() map[string]api.Message {
	some := func(l ...string) []string { return append(make([]string, 0, 5), l...) }
	vec := func(x int32) []int32 { return append(make([]int32, 0, 5), x) }
	filter := func() api.Filter {
		return api.Filter{All: some("s"), Any: some("s", "t"), None: some("u")}
	}
	l := make([]api.Change, 0, 5)
	l = append(l, api.Change{Item: api.Item{Id: 1, Vec: vec(1), Tags: some("s")}}, api.Change{Item: api.Item{Id: 2, Vec: vec(5), Tags: some("s", "t")}})
	return map[string]api.Message{
		"write":  {Kind: api.Write, Name: "a", Changes: l},
		"search": {Kind: api.Search, Name: "a", K: 9, Vec: vec(2), Filter: filter()},
		"open":   {Kind: api.Open, Name: "a", Vec: vec(2), Filter: filter()},
		"chunk":  {Kind: api.Chunk, Num: 1, Page: 1, Bytes: append(make([]byte, 0, 50), bytesOf(put(3, 2, "s"))...)},
	}
}

// overwrite writes over all lists of a message, and the spare room of each.
func overwrite(x api.Message) {
	for i := range x.Bytes[:cap(x.Bytes)] {
		x.Bytes[:cap(x.Bytes)][i] = 77
	}
	overwriteNumbers(x.Vec)
	for _, l := range [][]string{x.Filter.All, x.Filter.Any, x.Filter.None, x.Names} {
		overwriteTexts(l)
	}
	for i := range x.Hits[:cap(x.Hits)] {
		x.Hits[:cap(x.Hits)][i] = hit(-77, 77)
	}
	for i := range x.Changes[:cap(x.Changes)] {
		y := &x.Changes[:cap(x.Changes)][i]
		overwriteItem(&y.Item)
		y.Gone = !y.Gone
	}
	overwriteItems(x.Items)
}

func overwriteNumbers(l []int32) {
	for i := range l[:cap(l)] {
		l[:cap(l)][i] = 77
	}
}

func overwriteTexts(l []string) {
	for i := range l[:cap(l)] {
		l[:cap(l)][i] = "over"
	}
}

func overwriteItem(x *api.Item) {
	overwriteNumbers(x.Vec)
	overwriteTexts(x.Tags)
	x.Id = 77
}

func overwriteItems(l []api.Item) {
	for i := range l[:cap(l)] {
		overwriteItem(&l[:cap(l)][i])
	}
}

func overwriteNodes(l []api.Node) {
	for i := range l[:cap(l)] {
		n := &l[:cap(l)][i]
		overwriteItem(&n.Item)
		for _, links := range n.Links[:cap(n.Links)] {
			for j := range links[:cap(links)] {
				links[:cap(links)][j] = 77
			}
		}
		n.From = 77
	}
}

// listed does a script with all of everyList; each message, and each answer, is handed to with behind it. It tells what was answered.
func listed(c api.Conf, with func(x api.Message)) string {
	e := New([]byte{0, 1}, 5)
	m, again := everyList(), everyList()
	var l []string
	for _, x := range []api.Message{
		create(c), m["write"], m["search"], m["open"], staging("a"), m["chunk"], fetch(1, 1, 1), get("a", 2), list(), commit(1),
		fetch(1, 2, 1), get("a", 1), search("a", 9, 0), list(), fetch(1, 2, 9), again["search"], write("a", put(9, 9)), again["open"], fetch(2, 1, 9),
	} {
		a := e.Do(7, 0, x)
		l = append(l, text(a), told(e))
		with(x)
		with(a)
	}
	return strings.Join(l, "\n")
}

func TestWhatIsHandedInAndToldMayBeWrittenOver(t *testing.T) {
	for _, c := range []api.Conf{flatConf("a"), graphConf("a")} {
		want := listed(c, func(api.Message) {})
		if got := listed(c, overwrite); got != want {
			t.Errorf("%s; want\n%s", got, want)
		}
	}
}

func TestWhatIsToldOfAnEngineMayBeWrittenOver(t *testing.T) {
	r := busy(t)
	before := told(r.e)
	for _, name := range []string{"a", "f"} {
		for range 2 {
			overwriteItems(r.e.Items(name))
			overwriteNodes(r.e.Nodes(name))
			overwriteTexts(r.e.Names())
		}
	}
	r.unchanged(before, "what was told")
	if got, want := rest(r), rest(busy(t)); got != want {
		t.Errorf("%s; want\n%s", got, want)
	}
}

func TestAnswersStayAsTheyWere(t *testing.T) {
	r := busy(t)
	var answers []api.Message
	var texts []string
	asks := []api.Message{list(), get("a", 3), search("a", 32, 1), search("f", 5, 1), fetch(1, 1, 5), fetch(2, 2, 5)}
	for range 3 {
		for _, x := range asks {
			a := r.e.Do(7, 0, x)
			answers, texts = append(answers, a), append(texts, text(a))
		}
		r.do(7, 0, write("a", put(3, 99), gone(2)))
		r.do(7, 0, drop("f"))
		overwrite(answers[len(answers)-1])
		texts[len(texts)-1] = text(answers[len(answers)-1])
	}
	for i, a := range answers {
		if text(a) != texts[i] {
			t.Errorf("%s; it was\n%s", text(a), texts[i])
		}
	}
}

func TestWhatIsHandedInIsNotChanged(t *testing.T) {
	for _, c := range []api.Conf{flatConf("a"), graphConf("a")} {
		e := New(nil, 5)
		e.Do(7, 0, create(c))
		e.Do(7, 0, staging("a"))
		x, y := everyList(), everyList()
		for _, kind := range []string{"write", "search", "open", "chunk", "write", "search"} {
			e.Do(7, 0, x[kind])
		}
		e.Do(7, 0, commit(1))
		e.Do(7, 0, fetch(1, 1, 9))
		for kind := range x {
			if !reflect.DeepEqual(whole(x[kind]), whole(y[kind])) {
				t.Errorf("%+v; want %+v", whole(x[kind]), whole(y[kind]))
			}
		}
	}
}

// whole gives a message with all lists up to their ends' spare room.
func whole(x api.Message) api.Message {
	x.Bytes, x.Vec, x.Changes = x.Bytes[:cap(x.Bytes)], x.Vec[:cap(x.Vec)], slices.Clone(x.Changes[:cap(x.Changes)])
	f := &x.Filter
	f.All, f.Any, f.None = f.All[:cap(f.All)], f.Any[:cap(f.Any)], f.None[:cap(f.None)]
	for i := range x.Changes {
		y := &x.Changes[i].Item
		y.Vec, y.Tags = y.Vec[:cap(y.Vec)], y.Tags[:cap(y.Tags)]
	}
	return x
}

func TestLevelsMayBeWrittenOver(t *testing.T) {
	levels := []byte{0, 1, 2, 9, 9}
	r := &rig{t: t, e: New(levels[:3], 5)}
	over := func(level byte) {
		if !slices.Equal(levels[3:], []byte{9, 9}) {
			t.Fatal(levels)
		}
		copy(levels, []byte{level, level, level})
	}
	over(3)
	r.ok(create(graphConf("a")))
	over(4)
	r.want(write("a", put(1, 1), put(2, 2)), version(1))
	r.makeIndex("a")
	over(0)
	r.want(write("a", put(3, 3), put(4, 4)), version(2))
	r.wantLevels("a", 0, 1, 2, 0)
	if !slices.Equal(levels, []byte{0, 0, 0, 9, 9}) {
		t.Error(levels)
	}
}

func TestEnginesAreApart(t *testing.T) {
	x, y := busy(t), newRig(t)
	before := told(y.e)
	rest(x)
	y.unchanged(before, "another engine's requests")
	if y.e.Done() != 0 {
		t.Error(y.e.Done())
	}
	y.ok(create(flatConf("a")))
	y.want(write("a", put(1, 1)), version(1))
	y.want(open("a", 0), opened(1, 1))
	y.want(staging("a"), number(1))
	y.want(fetch(1, 1, 9), paged(1, hit(1, 1)))
}

func TestTheSameDoneTwiceAnswersTheSame(t *testing.T) {
	script := func() string {
		b := newPair(t, []byte{0, 1, 2}, 9)
		d := dice(31)
		for now := range uint32(1500) {
			b.step(&d, 100+now)
		}
		return fmt.Sprint(told(b.p), b.p.Done())
	}
	if script() != script() {
		t.Error("two engines to which the same was done differ")
	}
}

func TestWhateverIsAskedIsAnswered(t *testing.T) {
	d := dice(41)
	numbers := []uint32{0, 1, 2, 3, 257, 1 << 31, 1<<32 - 1}
	number := func() uint32 { return numbers[d.upTo(len(numbers))] }
	texts := [][]string{nil, {}, {""}, {"t"}, {"t", "s"}, slices.Repeat([]string{"t"}, 20), {strings.Repeat("t", 50)}}
	text := func() []string { return texts[d.upTo(len(texts))] }
	vecs := [][]int32{nil, {}, {1}, {-1 << 31}, {1 << 20}, {1, 2}, make([]int32, 50)}
	vec := func() []int32 { return vecs[d.upTo(len(vecs))] }
	names := []string{"", "a", "g", "z", strings.Repeat("n", 50), "\xff\x00"}
	for range 60 {
		r := busy(t)
		for range 200 {
			x := api.Message{Kind: byte(9 + d.upTo(17)), Name: names[d.upTo(len(names))], Id: number(), Vec: vec(), K: uint16(number()), Width: uint16(number())}
			x.Filter = api.Filter{All: text(), Any: text(), None: text()}
			x.Num, x.Page, x.Bytes, x.Caps, x.Code, x.Version, x.N = number(), number(), make([]byte, d.upTo(300)), 9, 9, 9, 9
			x.Conf = api.Conf{Name: names[d.upTo(len(names))], Dim: byte(number()), Metric: api.Metric(number()), Graph: d.upTo(2) == 0, Links: byte(number()), Width: uint16(number())}
			for range d.upTo(20) * d.upTo(2) {
				x.Changes = append(x.Changes, api.Change{Gone: d.upTo(2) == 0, Item: api.Item{Id: number(), Vec: vec(), Tags: text()}})
			}
			a := r.do(uint64(number()), number(), x)
			if a.Code != 0 && !reflect.DeepEqual(a, api.Message{Code: a.Code}) {
				t.Fatalf("%+v: %+v", x, a)
			}
		}
	}
}
