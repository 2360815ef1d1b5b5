package message

import (
	"bytes"
	"encoding/binary"
	"fmt"
	"math"
	"reflect"
	"slices"
	"strings"
	"testing"

	"lodestar/api"
)

// table is the chapter's: which fields follow in a message's bytes, by its kind.
var table = map[byte]string{
	api.Hello:   "Caps",
	api.Welcome: "Caps Token N",
	api.Resume:  "Token N",
	api.Resumed: "N",
	api.Ping:    "N",
	api.Pong:    "N",
	api.Credit:  "N",
	api.Acked:   "N",
	api.Refused: "Code",
	api.Goaway:  "Code",
	api.Create:  "Req Conf",
	api.Drop:    "Req Name",
	api.Stage:   "Req Name",
	api.List:    "Req",
	api.Write:   "Req Name Changes",
	api.Get:     "Req Name Id",
	api.Search:  "Req Name Vec K Width Filter",
	api.Open:    "Req Name Vec Filter",
	api.Fetch:   "Req Num Page K",
	api.Close:   "Req Num",
	api.Commit:  "Req Num",
	api.Abort:   "Req Num",
	api.Chunk:   "Req Num Page Bytes",
	api.Answer:  "Req Code Version Num Names Items Hits",
}

const kinds = 24

// allFields is a list of all fields of a message but its kind.
var allFields = strings.Fields("Req Caps Token Code N Name Conf Changes Id Vec K Width Filter Num Page Bytes Version Names Items Hits")

// some gives n bytes from a fixed sequence: they are no UTF-8, if they are a few.
func some(n int, seed uint32) []byte {
	d := &dice{seed}
	return many(n, func(int) byte { return byte(d.below(256)) })
}

// many gives n things, each of which make makes of its place.
func many[T any](n int, make func(i int) T) []T {
	var l []T
	for i := range n {
		l = append(l, make(i))
	}
	return l
}

// number gives the bytes of n.
func number(n uint64) []byte {
	return binary.AppendUvarint(nil, n)
}

// whole gives the bytes of the whole number n.
func whole(n int64) []byte {
	return binary.AppendVarint(nil, n)
}

// piece is a part of a message's bytes: a number that is at most, a whole number, or the bytes of a text.
type piece struct {
	b           []byte
	is          string // "number", "length", "whole" or "text"
	most        uint64 // of a number or a length
	least, high int64  // of a whole number
}

func numberPiece(n, most uint64) piece {
	return piece{b: number(n), is: "number", most: most}
}

func lengthPiece(n int, most uint64) piece {
	return piece{b: number(uint64(n)), is: "length", most: most}
}

func textPieces(b []byte) []piece {
	return []piece{lengthPiece(len(b), api.MaxFrame), {b: b, is: "text"}}
}

// spelled gives the pieces of anything, by the chapter's first table.
func spelled(v reflect.Value) []piece {
	switch x := v.Interface().(type) {
	case api.Metric:
		return []piece{numberPiece(uint64(x), 1)}
	case bool:
		if x {
			return []piece{numberPiece(1, 1)}
		}
		return []piece{numberPiece(0, 1)}
	case string:
		return textPieces([]byte(x))
	case []byte:
		return textPieces(x)
	case api.Change:
		gone := spelled(reflect.ValueOf(x.Gone))
		if x.Gone {
			return append(gone, spelled(reflect.ValueOf(x.Item.Id))...)
		}
		return append(gone, spelled(reflect.ValueOf(x.Item))...)
	}
	var l []piece
	switch v.Kind() {
	case reflect.Uint8, reflect.Uint16, reflect.Uint32, reflect.Uint64:
		l = append(l, numberPiece(v.Uint(), math.MaxUint64>>(64-v.Type().Bits())))
	case reflect.Int32, reflect.Int64:
		high := int64(math.MaxInt64) >> (64 - v.Type().Bits())
		l = append(l, piece{b: whole(v.Int()), is: "whole", least: -high - 1, high: high})
	case reflect.Slice:
		l = append(l, lengthPiece(v.Len(), api.MaxItems))
		for i := range v.Len() {
			l = append(l, spelled(v.Index(i))...)
		}
	case reflect.Struct:
		for i := range v.NumField() {
			l = append(l, spelled(v.Field(i))...)
		}
	}
	return l
}

// spelledMessage gives the pieces of x, by the chapter's second table.
func spelledMessage(x api.Message) []piece {
	var l []piece
	for _, name := range strings.Fields(table[x.Kind]) {
		l = append(l, spelled(reflect.ValueOf(x).FieldByName(name))...)
	}
	return l
}

func glued(l []piece) []byte {
	var b []byte
	for _, p := range l {
		b = append(b, p.b...)
	}
	return b
}

// messageBytes gives the bytes of x, whether it can be written or not.
func messageBytes(x api.Message) []byte {
	return glued(spelledMessage(x))
}

// changesBytes gives the bytes of l, whether they can be written or not.
func changesBytes(l []api.Change) []byte {
	return glued(spelled(reflect.ValueOf(l)))
}

// slow reads by the chapter's tables, field by field of what it is handed; it panics with the first error.
type slow struct {
	rest []byte
}

func (s *slow) number(most uint64) uint64 {
	for i, part := range s.rest {
		if i == 9 && part > 1 || i > 0 && part == 0 {
			panic(api.ErrVar)
		}
		if part < 128 {
			n, used := binary.Uvarint(s.rest)
			if n > most {
				panic(api.ErrForm)
			}
			s.rest = s.rest[used:]
			return n
		}
	}
	panic(api.ErrEnd)
}

func (s *slow) text() string {
	n := int(s.number(api.MaxFrame))
	if n > len(s.rest) {
		panic(api.ErrEnd)
	}
	text := string(s.rest[:n])
	s.rest = s.rest[n:]
	return text
}

func (s *slow) fill(v reflect.Value) {
	switch x := v.Addr().Interface().(type) {
	case *api.Metric:
		*x = api.Metric(s.number(1))
		return
	case *bool:
		*x = s.number(1) == 1
		return
	case *string:
		*x = s.text()
		return
	case *[]byte:
		*x = []byte(s.text())
		return
	case *api.Change:
		s.fill(v.FieldByName("Gone"))
		if x.Gone {
			v = v.FieldByName("Item").FieldByName("Id")
		} else {
			v = v.FieldByName("Item")
		}
	}
	switch v.Kind() {
	case reflect.Uint8, reflect.Uint16, reflect.Uint32, reflect.Uint64:
		v.SetUint(s.number(math.MaxUint64 >> (64 - v.Type().Bits())))
	case reflect.Int32, reflect.Int64:
		folded := s.number(math.MaxUint64)
		n := int64(folded >> 1)
		if folded%2 == 1 {
			n = -n - 1
		}
		if v.OverflowInt(n) {
			panic(api.ErrForm)
		}
		v.SetInt(n)
	case reflect.Slice:
		n := int(s.number(api.MaxItems))
		v.Set(reflect.MakeSlice(v.Type(), n, n))
		for i := range n {
			s.fill(v.Index(i))
		}
	case reflect.Struct:
		for i := range v.NumField() {
			s.fill(v.Field(i))
		}
	}
}

// slowly does what fills by a slow reader of b, and gives the first error.
func slowly(b []byte, fills func(s *slow)) (e api.Errno) {
	defer func() {
		if p := recover(); p != nil {
			e = p.(api.Errno)
		}
	}()
	s := &slow{rest: b}
	fills(s)
	if len(s.rest) > 0 {
		return api.ErrMore
	}
	return api.OK
}

func slowGet(kind byte, b []byte) (api.Message, api.Errno) {
	names, there := table[kind]
	if !there {
		return api.Message{}, api.ErrKind
	}
	x := api.Message{Kind: kind}
	e := slowly(b, func(s *slow) {
		for _, name := range strings.Fields(names) {
			s.fill(reflect.ValueOf(&x).Elem().FieldByName(name))
		}
	})
	if e != api.OK {
		return api.Message{}, e
	}
	return x, api.OK
}

func slowGetChanges(b []byte) ([]api.Change, api.Errno) {
	var l []api.Change
	e := slowly(b, func(s *slow) { s.fill(reflect.ValueOf(&l).Elem()) })
	if e != api.OK {
		return nil, e
	}
	return l, api.OK
}

// alike tells whether v and w are the same; lists that are nil or empty are.
func alike(v, w reflect.Value) bool {
	switch v.Kind() {
	case reflect.Slice:
		if v.Len() != w.Len() {
			return false
		}
		for i := range v.Len() {
			if !alike(v.Index(i), w.Index(i)) {
				return false
			}
		}
		return true
	case reflect.Struct:
		for i := range v.NumField() {
			if !alike(v.Field(i), w.Field(i)) {
				return false
			}
		}
		return true
	}
	return v.Equal(w)
}

func same[T any](x, y T) bool {
	return alike(reflect.ValueOf(x), reflect.ValueOf(y))
}

// short tells x, but not all of it, if that is long.
func short(x any) string {
	s := fmt.Sprintf("%+v", x)
	if len(s) > 300 {
		return s[:300] + ".."
	}
	return s
}

// wantGet wants Get to give x of its kind and b, and that e.
func wantGet(t *testing.T, kind byte, b []byte, want api.Message, wantErr api.Errno) {
	t.Helper()
	x, e := Get(kind, b)
	if e != wantErr || !same(x, want) {
		t.Fatalf("Get(%d, %s) = %s, %d; want %s, %d", kind, short(b), short(x), e, short(want), wantErr)
	}
}

// wantError wants Get to give e, and nothing beside it.
func wantError(t *testing.T, kind byte, b []byte, e api.Errno) {
	t.Helper()
	wantGet(t, kind, b, api.Message{}, e)
}

func wantGetChanges(t *testing.T, b []byte, want []api.Change, wantErr api.Errno) {
	t.Helper()
	l, e := GetChanges(b)
	if e != wantErr || !same(l, want) {
		t.Fatalf("GetChanges(%s) = %s, %d; want %s, %d", short(b), short(l), e, short(want), wantErr)
	}
}

// wantPut wants Put to give those bytes.
func wantPut(t *testing.T, x api.Message, want []byte) {
	t.Helper()
	if b, ok := Put(x); !ok || !bytes.Equal(b, want) {
		t.Fatalf("Put(%s) = %s, %t; want %s", short(x), short(b), ok, short(want))
	}
}

func wantPutChanges(t *testing.T, l []api.Change, want []byte) {
	t.Helper()
	if b, ok := PutChanges(l); !ok || !bytes.Equal(b, want) {
		t.Fatalf("PutChanges(%s) = %s, %t; want %s", short(l), short(b), ok, short(want))
	}
}

// wantBothWays wants x to be written and read by the chapter's tables, and if it is a Write its changes too.
func wantBothWays(t *testing.T, x api.Message) {
	t.Helper()
	wantPut(t, x, messageBytes(x))
	wantGet(t, x.Kind, messageBytes(x), x, api.OK)
	if x.Kind == api.Write {
		wantPutChanges(t, x.Changes, changesBytes(x.Changes))
		wantGetChanges(t, changesBytes(x.Changes), x.Changes, api.OK)
	}
}

// wantUnwritten wants Put to give nothing of x.
func wantUnwritten(t *testing.T, x api.Message) {
	t.Helper()
	if b, ok := Put(x); ok || len(b) > 0 {
		t.Fatalf("Put(%s) = %s, %t; want none, false", short(x), short(b), ok)
	}
}

func wantUnwrittenChanges(t *testing.T, l []api.Change) {
	t.Helper()
	if b, ok := PutChanges(l); ok || len(b) > 0 {
		t.Fatalf("PutChanges(%s) = %s, %t; want none, false", short(l), short(b), ok)
	}
}

// wantTooLong wants x to be neither written nor read, for what is too long in it, and its changes, if it has some, neither.
func wantTooLong(t *testing.T, x api.Message) {
	t.Helper()
	wantUnwritten(t, x)
	wantError(t, x.Kind, messageBytes(x), api.ErrForm)
	if len(x.Changes) > 0 {
		wantUnwrittenChanges(t, x.Changes)
		wantGetChanges(t, changesBytes(x.Changes), nil, api.ErrForm)
	}
}

// set makes the field of that name in x what it is in from.
func set(x *api.Message, name string, from api.Message) {
	reflect.ValueOf(x).Elem().FieldByName(name).Set(reflect.ValueOf(from).FieldByName(name))
}

// only gives a message of that kind with those fields of x that the table names for it.
func only(kind byte, x api.Message) api.Message {
	y := api.Message{Kind: kind}
	for _, name := range strings.Fields(table[kind]) {
		set(&y, name, x)
	}
	return y
}

// everything gives a message that has something in every field.
func everything() api.Message {
	return api.Message{
		Req: 7, Caps: 3, Token: 1 << 40, Code: 80, N: 300, Name: "name",
		Conf:    api.Conf{Name: "conf", Dim: 16, Metric: api.Minus, Graph: true, Links: 8, Width: 256},
		Changes: []api.Change{{Item: api.Item{Id: 1, Vec: []int32{-1, 2, 0}, Tags: []string{"a", "b"}}}, {Gone: true, Item: api.Item{Id: 300}}, {}},
		Id:      90000, Vec: []int32{5, -70, 1 << 20}, K: 32, Width: 200,
		Filter: api.Filter{All: []string{"x"}, Any: []string{"y", "zz"}, None: []string{"", "v", "w"}},
		Num:    128, Page: 127, Bytes: []byte{0, 255, 128}, Version: 1 << 30,
		Names: []string{"first", "", "\xff\xfe"},
		Items: []api.Item{{Id: 9, Vec: []int32{-9}, Tags: []string{"tag"}}, {}, {Id: 10, Vec: []int32{1, 2}}},
		Hits:  []api.Hit{{Dist: -12, Id: 1}, {}, {Dist: 1 << 50, Id: 1 << 20}},
	}
}

// greatest gives a message with all fields at their greatest: but a text only at the end of each list is, and the others have a byte.
func greatest() api.Message {
	long := string(some(api.MaxFrame, 1))
	texts := func() []string {
		l := many(api.MaxItems, func(i int) string { return string([]byte{byte(i)}) })
		l[api.MaxItems-1] = long
		return l
	}
	vector := func() []int32 {
		return many(api.MaxItems, func(i int) int32 { return []int32{math.MaxInt32, math.MinInt32}[i%2] })
	}
	item := func(i int) api.Item {
		x := api.Item{Id: math.MaxUint32}
		if i%16 == 15 {
			x.Vec, x.Tags = vector(), texts()
		}
		return x
	}
	change := func(i int) api.Change {
		if i%16 == 14 {
			return api.Change{Gone: true, Item: api.Item{Id: math.MaxUint32}}
		}
		return api.Change{Item: item(i)}
	}
	return api.Message{
		Req: math.MaxUint32, Caps: math.MaxUint32, Token: math.MaxUint64, Code: math.MaxUint8, N: math.MaxUint32, Name: long,
		Conf:    api.Conf{Name: long, Dim: math.MaxUint8, Metric: api.Minus, Graph: true, Links: math.MaxUint8, Width: math.MaxUint16},
		Changes: many(api.MaxItems, change),
		Id:      math.MaxUint32, Vec: vector(), K: math.MaxUint16, Width: math.MaxUint16,
		Filter: api.Filter{All: texts(), Any: texts(), None: texts()},
		Num:    math.MaxUint32, Page: math.MaxUint32, Bytes: []byte(long), Version: math.MaxUint64,
		Names: texts(),
		Items: many(api.MaxItems, item),
		Hits: many(api.MaxItems, func(i int) api.Hit {
			return api.Hit{Dist: []int64{math.MaxInt64, math.MinInt64}[i%2], Id: math.MaxUint32}
		}),
	}
}

// dice gives numbers of a fixed sequence.
type dice struct {
	seed uint32
}

func (d *dice) below(n int) int {
	d.seed = d.seed*1664525 + 1013904223
	return int(d.seed>>8) % n
}

// number gives a number of at most that many bits, and of few of them as often as of many.
func (d *dice) number(bits int) uint64 {
	n := uint64(d.below(1<<20))<<44 ^ uint64(d.below(1<<22))<<22 ^ uint64(d.below(1<<22))
	return n >> (63 - d.below(bits))
}

// fill fills all of v with something; of a Change that is Gone only its Id.
func (d *dice) fill(v reflect.Value) {
	switch x := v.Addr().Interface().(type) {
	case *api.Metric:
		*x = api.Metric(d.below(2))
		return
	case *[]byte:
		*x = some(d.below(200), d.seed)
		return
	}
	switch v.Kind() {
	case reflect.Bool:
		v.SetBool(d.below(2) == 1)
	case reflect.Uint8, reflect.Uint16, reflect.Uint32, reflect.Uint64:
		v.SetUint(d.number(v.Type().Bits()))
	case reflect.Int32, reflect.Int64:
		n := int64(d.number(v.Type().Bits() - 1))
		if d.below(2) == 1 {
			n = -n - 1
		}
		v.SetInt(n)
	case reflect.String:
		v.SetString(string(some(d.below(20), d.seed)))
	case reflect.Slice:
		n := d.below(5)
		v.Set(reflect.MakeSlice(v.Type(), n, n))
		for i := range n {
			d.fill(v.Index(i))
		}
	case reflect.Struct:
		for i := range v.NumField() {
			d.fill(v.Field(i))
		}
		if c, ok := v.Addr().Interface().(*api.Change); ok && c.Gone {
			c.Item = api.Item{Id: c.Item.Id}
		}
	}
}

// thrown gives a message of each kind, with fields from a fixed sequence.
func thrown(seed uint32) []api.Message {
	d := &dice{seed}
	return many(kinds, func(i int) api.Message {
		var x api.Message
		d.fill(reflect.ValueOf(&x).Elem())
		return only(byte(i+1), x)
	})
}

// samples gives of each kind a message without a field, one with all, and some others.
func samples() []api.Message {
	var l []api.Message
	for kind := byte(1); kind <= kinds; kind++ {
		l = append(l, api.Message{Kind: kind}, only(kind, everything()))
	}
	return slices.Concat(l, thrown(3), thrown(4))
}

// textPlace is a place in a message where a text stands.
type textPlace struct {
	name string
	make func(text string) api.Message
}

func textPlaces() []textPlace {
	l := []textPlace{
		{"Create's Conf", func(s string) api.Message { return api.Message{Kind: api.Create, Conf: api.Conf{Name: s}} }},
		{"Chunk's Bytes", func(s string) api.Message { return api.Message{Kind: api.Chunk, Bytes: []byte(s)} }},
	}
	for _, kind := range []byte{api.Drop, api.Stage, api.Write, api.Get, api.Search, api.Open} {
		l = append(l, textPlace{fmt.Sprint("Name of kind ", kind), func(s string) api.Message { return api.Message{Kind: kind, Name: s} }})
	}
	for _, place := range listPlaces() {
		if place.texts != nil {
			l = append(l,
				textPlace{place.name + ", alone", func(s string) api.Message { return place.texts([]string{s}) }},
				textPlace{place.name + ", in the midst", func(s string) api.Message { return place.texts([]string{"a", s, "b"}) }})
		}
	}
	return l
}

// listPlace is a place in a message where a list stands.
type listPlace struct {
	name  string
	make  func(n int) api.Message
	texts func(l []string) api.Message // if it is a list of texts
}

func listOfTexts(name string, texts func(l []string) api.Message) listPlace {
	return listPlace{name, func(n int) api.Message {
		return texts(many(n, func(i int) string { return string(some(i%3, uint32(i))) }))
	}, texts}
}

func listPlaces() []listPlace {
	vector := func(n int) []int32 { return many(n, func(i int) int32 { return int32(i*7919) - 300 }) }
	item := func(i int) api.Item { return api.Item{Id: uint32(i), Vec: vector(i % 3)} }
	l := []listPlace{
		listOfTexts("tags of a Change", func(l []string) api.Message {
			return api.Message{Kind: api.Write, Changes: []api.Change{{Gone: true}, {Item: api.Item{Tags: l}}}}
		}),
		listOfTexts("Names", func(l []string) api.Message { return api.Message{Kind: api.Answer, Names: l} }),
		listOfTexts("tags of an Item", func(l []string) api.Message {
			return api.Message{Kind: api.Answer, Items: []api.Item{{Tags: l}, {}}}
		}),
		{"Changes", func(n int) api.Message {
			return api.Message{Kind: api.Write, Changes: many(n, func(i int) api.Change { return api.Change{Item: item(i)} })}
		}, nil},
		{"Changes that are Gone", func(n int) api.Message {
			return api.Message{Kind: api.Write, Changes: many(n, func(i int) api.Change { return api.Change{Gone: true, Item: api.Item{Id: uint32(i)}} })}
		}, nil},
		{"the vector of a Change", func(n int) api.Message {
			return api.Message{Kind: api.Write, Changes: []api.Change{{}, {Item: api.Item{Vec: vector(n)}}}}
		}, nil},
		{"Items", func(n int) api.Message { return api.Message{Kind: api.Answer, Items: many(n, item)} }, nil},
		{"the vector of an Item", func(n int) api.Message {
			return api.Message{Kind: api.Answer, Items: []api.Item{{Id: 1}, {Vec: vector(n)}}}
		}, nil},
		{"Hits", func(n int) api.Message {
			return api.Message{Kind: api.Answer, Hits: many(n, func(i int) api.Hit { return api.Hit{Dist: int64(-i), Id: uint32(i)} })}
		}, nil},
	}
	for _, kind := range []byte{api.Search, api.Open} {
		l = append(l,
			listPlace{fmt.Sprint("Vec of kind ", kind), func(n int) api.Message { return api.Message{Kind: kind, Vec: vector(n)} }, nil},
			listOfTexts(fmt.Sprint("All of kind ", kind), func(l []string) api.Message { return api.Message{Kind: kind, Filter: api.Filter{All: l}} }),
			listOfTexts(fmt.Sprint("Any of kind ", kind), func(l []string) api.Message { return api.Message{Kind: kind, Filter: api.Filter{Any: l}} }),
			listOfTexts(fmt.Sprint("None of kind ", kind), func(l []string) api.Message { return api.Message{Kind: kind, Filter: api.Filter{None: l}} }))
	}
	return l
}

// fault is what a piece may be instead, and the error that is then told.
type fault struct {
	b []byte
	e api.Errno
}

// faults gives bytes that are wrong where p stands.
func (p piece) faults() []fault {
	if p.is == "text" {
		return nil
	}
	// The last byte says that another one follows, and that is 0: more bytes than are needed. (Behind a tenth byte there is no other: then it is too great.)
	padded := append(slices.Clone(p.b), 0)
	padded[len(p.b)-1] |= 128
	l := []fault{
		{padded, api.ErrVar},
		{[]byte{128, 0}, api.ErrVar},
		{append(bytes.Repeat([]byte{255}, 9), 2), api.ErrVar},
		{bytes.Repeat([]byte{128}, 10), api.ErrVar},
	}
	if p.is == "whole" && p.high < math.MaxInt64 {
		for _, n := range []int64{p.high + 1, p.least - 1, math.MaxInt64, math.MinInt64} {
			l = append(l, fault{whole(n), api.ErrForm})
		}
	}
	if p.is != "whole" && p.most < math.MaxUint64 {
		for _, n := range []uint64{p.most + 1, math.MaxUint64} {
			l = append(l, fault{number(n), api.ErrForm})
		}
	}
	return l
}

// with gives the bytes of l, with b in the place i.
func with(l []piece, i int, b []byte) []byte {
	l = slices.Clone(l)
	l[i].b = b
	return glued(l)
}

// The chapter's and the document's examples

func TestTheChaptersExamples(t *testing.T) {
	wantPut(t, api.Message{Kind: api.Ping, N: 300}, []byte{172, 2})
	wantGet(t, api.Ping, []byte{172, 2}, api.Message{Kind: api.Ping, N: 300}, api.OK)
	wantError(t, api.Ping, []byte{172, 2, 0}, api.ErrMore)
	wantError(t, api.Drop, []byte{1, 3, 97}, api.ErrEnd)
	wantError(t, 25, nil, api.ErrKind)
	wantError(t, api.Hello, []byte{128, 128, 128, 128, 16}, api.ErrForm)
}

func TestMessagesWhoseBytesWereWrittenByHand(t *testing.T) {
	for _, c := range []struct {
		x api.Message
		b []byte
	}{
		{api.Message{Kind: api.Welcome, Caps: 3, Token: 300, N: 8}, []byte{3, 172, 2, 8}},
		{api.Message{Kind: api.Resume, Token: 1, N: 2}, []byte{1, 2}},
		{api.Message{Kind: api.Goaway, Code: 190}, []byte{190, 1}},
		{api.Message{Kind: api.Create, Req: 1, Conf: api.Conf{Name: "ab", Dim: 2, Metric: api.Minus, Graph: true, Links: 3, Width: 256}},
			[]byte{1, 2, 'a', 'b', 2, 1, 1, 3, 128, 2}},
		{api.Message{Kind: api.Stage, Req: 9, Name: "n"}, []byte{9, 1, 'n'}},
		{api.Message{Kind: api.Write, Req: 5, Name: "c", Changes: []api.Change{{Gone: true, Item: api.Item{Id: 4}}, {Item: api.Item{Id: 6, Vec: []int32{-3, 64}, Tags: []string{"", "t"}}}}},
			[]byte{5, 1, 'c', 2, 1, 4, 0, 6, 2, 5, 128, 1, 2, 0, 1, 't'}},
		{api.Message{Kind: api.Get, Req: 1, Name: "g", Id: 2}, []byte{1, 1, 'g', 2}},
		{api.Message{Kind: api.Search, Req: 1, Name: "s", Vec: []int32{1}, K: 2, Width: 3, Filter: api.Filter{All: []string{"a"}, Any: []string{"b", "c"}}},
			[]byte{1, 1, 's', 1, 2, 2, 3, 1, 1, 'a', 2, 1, 'b', 1, 'c', 0}},
		{api.Message{Kind: api.Open, Req: 1, Name: "o", Vec: []int32{-1}, Filter: api.Filter{None: []string{"x"}}},
			[]byte{1, 1, 'o', 1, 1, 0, 0, 1, 1, 'x'}},
		{api.Message{Kind: api.Fetch, Req: 1, Num: 2, Page: 3, K: 4}, []byte{1, 2, 3, 4}},
		{api.Message{Kind: api.Chunk, Req: 1, Num: 2, Page: 3, Bytes: []byte{4, 0}}, []byte{1, 2, 3, 2, 4, 0}},
		{api.Message{Kind: api.Answer, Req: 1, Code: 2, Version: 3, Num: 4, Names: []string{"n"}, Items: []api.Item{{Id: 5}}, Hits: []api.Hit{{Dist: -1, Id: 6}, {Dist: 1, Id: 7}}},
			[]byte{1, 2, 3, 4, 1, 1, 'n', 1, 5, 0, 0, 2, 1, 6, 2, 7}},
	} {
		wantPut(t, c.x, c.b)
		wantGet(t, c.x.Kind, c.b, c.x, api.OK)
	}
}

// P6.1: what is written, and read

func TestAMessageWithAllFieldsOfItsKind(t *testing.T) {
	for kind := byte(1); kind <= kinds; kind++ {
		wantBothWays(t, only(kind, everything()))
	}
}

func TestAMessageWithoutFields(t *testing.T) {
	for kind := byte(1); kind <= kinds; kind++ {
		x := api.Message{Kind: kind}
		wantBothWays(t, x)
		wantPut(t, x, make([]byte, len(messageBytes(x))))
	}
}

func TestAMessageWithItsFieldsAtTheirGreatest(t *testing.T) {
	for kind := byte(1); kind <= kinds; kind++ {
		wantBothWays(t, only(kind, greatest()))
	}
}

func TestAMessageWithOneOfItsFields(t *testing.T) {
	for kind := byte(1); kind <= kinds; kind++ {
		for _, name := range strings.Fields(table[kind]) {
			x := api.Message{Kind: kind}
			set(&x, name, everything())
			wantBothWays(t, x)
		}
	}
}

func TestMessagesFromAFixedSequence(t *testing.T) {
	for seed := range uint32(200) {
		for _, x := range thrown(seed) {
			wantBothWays(t, x)
		}
	}
}

func TestThereIsNoSuchKind(t *testing.T) {
	full := everything()
	for kind := range 256 {
		if _, there := table[byte(kind)]; there {
			continue
		}
		wantUnwritten(t, api.Message{Kind: byte(kind)})
		wantUnwritten(t, api.Message{Kind: byte(kind), N: 1, Req: 1})
		full.Kind = byte(kind)
		wantUnwritten(t, full)
		// The kind is looked at ahead of the bytes.
		for _, b := range [][]byte{nil, {}, {0}, {1, 1}, {128, 0}, {128}, {255, 255, 255, 255, 255, 255}} {
			wantError(t, byte(kind), b, api.ErrKind)
		}
	}
}

func TestAFieldMoreThanTheTableNames(t *testing.T) {
	more := []api.Message{
		{Req: 1}, {Caps: 1}, {Token: 1}, {Token: 1 << 63}, {Code: 1}, {N: 1}, {Name: "\x00"},
		{Conf: api.Conf{Name: "\x00"}}, {Conf: api.Conf{Dim: 1}}, {Conf: api.Conf{Metric: api.Minus}}, {Conf: api.Conf{Metric: 2}},
		{Conf: api.Conf{Graph: true}}, {Conf: api.Conf{Links: 1}}, {Conf: api.Conf{Width: 1}}, {Conf: api.Conf{Width: 256}},
		{Changes: []api.Change{{}}}, {Id: 1}, {Vec: []int32{0}}, {K: 1}, {K: 256}, {Width: 1}, {Width: 256},
		{Filter: api.Filter{All: []string{""}}}, {Filter: api.Filter{Any: []string{""}}}, {Filter: api.Filter{None: []string{""}}},
		{Num: 1}, {Page: 1}, {Bytes: []byte{0}}, {Version: 1}, {Version: 1 << 63}, {Names: []string{""}}, {Items: []api.Item{{}}}, {Hits: []api.Hit{{}}},
		everything(), greatest(),
	}
	for kind := byte(1); kind <= kinds; kind++ {
		named := strings.Fields(table[kind])
		for _, base := range []api.Message{{Kind: kind}, only(kind, everything()), only(kind, greatest())} {
			for _, name := range allFields {
				if slices.Contains(named, name) {
					continue
				}
				for _, m := range more {
					if reflect.ValueOf(m).FieldByName(name).IsZero() {
						continue
					}
					x := base
					set(&x, name, m)
					wantUnwritten(t, x)
				}
			}
		}
	}
}

func TestEveryFieldOfAMessageIsKnownHere(t *testing.T) {
	of := reflect.TypeFor[api.Message]()
	if of.NumField() != len(allFields)+1 {
		t.Error(of.NumField(), "fields")
	}
	for _, name := range allFields {
		if _, there := of.FieldByName(name); !there {
			t.Error(name)
		}
	}
}

func TestListsThatTheTableDoesNotNameMayBeEmpty(t *testing.T) {
	for kind := byte(1); kind <= kinds; kind++ {
		x := api.Message{Kind: kind}
		want := messageBytes(x)
		x.Changes, x.Vec, x.Bytes = []api.Change{}, make([]int32, 0, 5), []byte{}
		x.Filter = api.Filter{All: []string{}, Any: make([]string, 0, 1), None: []string{}}
		x.Names, x.Items, x.Hits = []string{}, []api.Item{}, []api.Hit{}
		wantPut(t, x, want)
	}
	wantPutChanges(t, []api.Change{{Gone: true, Item: api.Item{Id: 3, Vec: []int32{}, Tags: make([]string, 0, 2)}}}, []byte{1, 1, 3})
	wantPutChanges(t, []api.Change{}, []byte{0})
}

func TestTextsOfAllLengths(t *testing.T) {
	for _, place := range textPlaces() {
		for _, n := range []int{0, 1, 2, 127, 128, api.MaxFrame - 1, api.MaxFrame} {
			wantBothWays(t, place.make(string(some(n, uint32(n)))))
		}
	}
}

func TestTextsThatAreTooLong(t *testing.T) {
	for _, place := range textPlaces() {
		for _, n := range []int{api.MaxFrame + 1, api.MaxFrame + 2, 1 << 16} {
			wantTooLong(t, place.make(strings.Repeat("a", n)))
		}
	}
}

func TestListsOfAllLengths(t *testing.T) {
	for _, place := range listPlaces() {
		for _, n := range []int{0, 1, 2, 127, api.MaxItems - 1, api.MaxItems} {
			wantBothWays(t, place.make(n))
		}
	}
}

func TestListsThatAreTooLong(t *testing.T) {
	for _, place := range listPlaces() {
		for _, n := range []int{api.MaxItems + 1, api.MaxItems + 2, 256, 1000} {
			wantTooLong(t, place.make(n))
		}
	}
}

func TestTextsMayBeAnyBytes(t *testing.T) {
	for _, text := range []string{"\x00", "\xff", "\xc0\x80", "\xed\xa0\x80", "\xf5\x80\x80\x80", "\xe2\x82", "a\x80b", "\u20ac", "\xef\xbf\xbd", "a\nb", " "} {
		for _, place := range textPlaces() {
			wantBothWays(t, place.make(text))
		}
	}
}

func TestMetricsBeyondMinus(t *testing.T) {
	for m := range 256 {
		x := api.Message{Kind: api.Create, Req: 1, Conf: api.Conf{Name: "n", Dim: 1, Metric: api.Metric(m)}}
		if m <= int(api.Minus) {
			wantBothWays(t, x)
			continue
		}
		wantUnwritten(t, x)
		wantError(t, x.Kind, messageBytes(x), api.ErrForm)
	}
}

func TestAMetricIsNotCutToItsLowBits(t *testing.T) {
	for _, m := range []uint64{2, 128, 256, 257, 1 << 32, 1<<63 + 1} {
		b := slices.Concat([]byte{1, 0, 1}, number(m), []byte{0, 0, 0})
		wantError(t, api.Create, b, api.ErrForm)
	}
}

// P6.1: errors, from the left

func TestNumbersThatAreJustAsGreatAsTheirFieldHasRoomFor(t *testing.T) {
	for _, x := range samples() {
		l := spelledMessage(x)
		for i, p := range l {
			var bs [][]byte
			switch p.is {
			case "number":
				bs = [][]byte{number(p.most), number(p.most - 1)}
			case "whole":
				bs = [][]byte{whole(p.high), whole(p.least)}
			}
			for _, b := range bs {
				all := with(l, i, b)
				want, e := slowGet(x.Kind, all)
				wantGet(t, x.Kind, all, want, e)
			}
		}
	}
}

func TestNumbersOfEachWidth(t *testing.T) {
	type field struct {
		kind   byte
		ahead  []byte
		behind []byte
		most   uint64
		get    func(x api.Message) uint64
	}
	for _, f := range []field{
		{api.Hello, nil, nil, math.MaxUint32, func(x api.Message) uint64 { return uint64(x.Caps) }},
		{api.Welcome, []byte{1}, []byte{1}, math.MaxUint64, func(x api.Message) uint64 { return x.Token }},
		{api.Resume, nil, []byte{1}, math.MaxUint64, func(x api.Message) uint64 { return x.Token }},
		{api.Ping, nil, nil, math.MaxUint32, func(x api.Message) uint64 { return uint64(x.N) }},
		{api.Refused, nil, nil, math.MaxUint8, func(x api.Message) uint64 { return uint64(x.Code) }},
		{api.List, nil, nil, math.MaxUint32, func(x api.Message) uint64 { return uint64(x.Req) }},
		{api.Create, []byte{1, 0}, []byte{0, 0, 0, 0}, math.MaxUint8, func(x api.Message) uint64 { return uint64(x.Conf.Dim) }},
		{api.Create, []byte{1, 0, 1, 0, 0}, []byte{0}, math.MaxUint8, func(x api.Message) uint64 { return uint64(x.Conf.Links) }},
		{api.Create, []byte{1, 0, 1, 0, 0, 0}, nil, math.MaxUint16, func(x api.Message) uint64 { return uint64(x.Conf.Width) }},
		{api.Get, []byte{1, 0}, nil, math.MaxUint32, func(x api.Message) uint64 { return uint64(x.Id) }},
		{api.Search, []byte{1, 0, 0}, []byte{0, 0, 0, 0}, math.MaxUint16, func(x api.Message) uint64 { return uint64(x.K) }},
		{api.Search, []byte{1, 0, 0, 0}, []byte{0, 0, 0}, math.MaxUint16, func(x api.Message) uint64 { return uint64(x.Width) }},
		{api.Fetch, []byte{1}, []byte{0, 0}, math.MaxUint32, func(x api.Message) uint64 { return uint64(x.Num) }},
		{api.Fetch, []byte{1, 0}, []byte{0}, math.MaxUint32, func(x api.Message) uint64 { return uint64(x.Page) }},
		{api.Fetch, []byte{1, 0, 0}, nil, math.MaxUint16, func(x api.Message) uint64 { return uint64(x.K) }},
		{api.Write, []byte{1, 0, 1, 1}, nil, math.MaxUint32, func(x api.Message) uint64 { return uint64(x.Changes[0].Item.Id) }},
		{api.Write, []byte{1, 0, 1, 0}, []byte{0, 0}, math.MaxUint32, func(x api.Message) uint64 { return uint64(x.Changes[0].Item.Id) }},
		{api.Answer, []byte{1}, []byte{0, 0, 0, 0, 0}, math.MaxUint8, func(x api.Message) uint64 { return uint64(x.Code) }},
		{api.Answer, []byte{1, 0}, []byte{0, 0, 0, 0}, math.MaxUint64, func(x api.Message) uint64 { return x.Version }},
		{api.Answer, []byte{1, 0, 0, 0, 0, 1}, []byte{0, 0, 0}, math.MaxUint32, func(x api.Message) uint64 { return uint64(x.Items[0].Id) }},
		{api.Answer, []byte{1, 0, 0, 0, 0, 0, 1, 0}, nil, math.MaxUint32, func(x api.Message) uint64 { return uint64(x.Hits[0].Id) }},
	} {
		for _, n := range []uint64{0, 1, 127, 128, f.most - 1, f.most} {
			x, e := Get(f.kind, slices.Concat(f.ahead, number(n), f.behind))
			if e != api.OK || f.get(x) != n {
				t.Errorf("kind %d, behind %v: %d, %s", f.kind, f.ahead, e, short(x))
			}
		}
		if f.most == math.MaxUint64 {
			continue
		}
		for _, n := range []uint64{f.most + 1, f.most*2 + 1, 1 << 32, 1 << 63, math.MaxUint64} {
			wantError(t, f.kind, slices.Concat(f.ahead, number(n), f.behind), api.ErrForm)
		}
	}
}

func TestWholeNumbersToBothSides(t *testing.T) {
	for _, c := range []struct {
		n    int64
		want api.Errno
	}{
		{math.MaxInt32, api.OK}, {math.MinInt32, api.OK}, {0, api.OK}, {-1, api.OK},
		{math.MaxInt32 + 1, api.ErrForm}, {math.MinInt32 - 1, api.ErrForm}, {1 << 32, api.ErrForm}, {-1 << 32, api.ErrForm},
		{math.MaxInt64, api.ErrForm}, {math.MinInt64, api.ErrForm},
	} {
		x, y := api.Message{}, []api.Change(nil)
		if c.want == api.OK {
			x = api.Message{Kind: api.Open, Vec: []int32{1, int32(c.n)}}
			y = []api.Change{{Item: api.Item{Vec: []int32{int32(c.n)}}}}
		}
		wantGet(t, api.Open, slices.Concat([]byte{0, 0, 2, 2}, whole(c.n), []byte{0, 0, 0}), x, c.want)
		wantGetChanges(t, slices.Concat([]byte{1, 0, 0, 1}, whole(c.n), []byte{0}), y, c.want)
		// A distance has room for all of them.
		wantBothWays(t, api.Message{Kind: api.Answer, Hits: []api.Hit{{Dist: c.n}}})
	}
}

func TestFlagsAreNoughtOrOne(t *testing.T) {
	for _, n := range []uint64{2, 3, 127, 128, 256, 257, 1 << 32, 1<<32 + 1, math.MaxUint64} {
		wantError(t, api.Create, slices.Concat([]byte{1, 0, 1, 0}, number(n), []byte{0, 0}), api.ErrForm)
		wantError(t, api.Write, slices.Concat([]byte{1, 0, 1}, number(n), []byte{5}), api.ErrForm)
		wantError(t, api.Write, slices.Concat([]byte{1, 0, 1}, number(n), []byte{5, 0, 0}), api.ErrForm)
		wantGetChanges(t, slices.Concat([]byte{1}, number(n), []byte{5}), nil, api.ErrForm)
	}
}

func TestLengthsThatAreTooGreat(t *testing.T) {
	for _, x := range samples() {
		l := spelledMessage(x)
		for i, p := range l {
			if p.is != "length" {
				continue
			}
			for _, n := range []uint64{p.most + 1, 1 << 16, 1 << 31, 1 << 32, 1<<32 + 1, 1 << 63, 1<<63 + 1, math.MaxUint64} {
				wantError(t, x.Kind, with(l, i, number(n)), api.ErrForm)
				// So is it where nothing follows.
				wantError(t, x.Kind, slices.Concat(glued(l[:i]), number(n)), api.ErrForm)
			}
			wantError(t, x.Kind, slices.Concat(glued(l[:i]), number(p.most)), api.ErrEnd)
		}
	}
}

func TestEachNumberThatIsWrong(t *testing.T) {
	for _, x := range samples() {
		l := spelledMessage(x)
		for i, p := range l {
			for _, f := range p.faults() {
				wantError(t, x.Kind, with(l, i, f.b), f.e)
				// What follows it is not looked at.
				wantError(t, x.Kind, append(glued(l[:i]), f.b...), f.e)
				wantError(t, x.Kind, append(with(l, i, f.b), 0), f.e)
			}
		}
	}
}

func TestOfTwoErrorsTheLeftOneIsTold(t *testing.T) {
	for kind := byte(1); kind <= kinds; kind++ {
		l := spelledMessage(only(kind, everything()))
		for i := range l {
			for _, f := range l[i].faults() {
				for j := i + 1; j < len(l); j++ {
					for _, g := range l[j].faults() {
						both := slices.Clone(l)
						both[i].b, both[j].b = f.b, g.b
						wantError(t, kind, glued(both), f.e)
					}
				}
			}
		}
	}
}

func TestBytesThatAreCutOff(t *testing.T) {
	for _, x := range samples() {
		b := messageBytes(x)
		for n := range b {
			wantError(t, x.Kind, b[:n], api.ErrEnd)
			// The room behind is not looked at.
			wantError(t, x.Kind, b[:n:n], api.ErrEnd)
		}
	}
	for kind := byte(1); kind <= kinds; kind++ {
		wantError(t, kind, nil, api.ErrEnd)
		wantError(t, kind, []byte{}, api.ErrEnd)
	}
}

func TestTextsThatEndTooEarly(t *testing.T) {
	for _, place := range textPlaces() {
		x := place.make("abc")
		b := messageBytes(x)
		at := bytes.Index(b, []byte("\x03abc"))
		for n := range 4 {
			wantError(t, x.Kind, b[:at+n], api.ErrEnd)
		}
		wantError(t, x.Kind, slices.Concat(b[:at], number(api.MaxFrame), some(api.MaxFrame-1, 5)), api.ErrEnd)
	}
}

func TestBytesWithMoreBehind(t *testing.T) {
	for _, x := range samples() {
		b := messageBytes(x)
		for _, more := range [][]byte{{0}, {1}, {128}, {128, 0}, {255, 255}, some(100, 3), b} {
			wantError(t, x.Kind, slices.Concat(b, more), api.ErrMore)
		}
	}
}

// P6.2

func TestChanges(t *testing.T) {
	for _, l := range [][]api.Change{nil, {}, {{}}, {{Gone: true}}, everything().Changes, greatest().Changes} {
		wantPutChanges(t, l, changesBytes(l))
		wantGetChanges(t, changesBytes(l), l, api.OK)
	}
	wantPutChanges(t, nil, []byte{0})
	wantPutChanges(t, []api.Change{{Gone: true, Item: api.Item{Id: 300}}, {Item: api.Item{Id: 1, Vec: []int32{-1}, Tags: []string{"t"}}}},
		[]byte{2, 1, 172, 2, 0, 1, 1, 1, 1, 1, 't'})
}

func TestChangesFromAFixedSequence(t *testing.T) {
	for seed := range uint32(300) {
		var l []api.Change
		(&dice{seed}).fill(reflect.ValueOf(&l).Elem())
		wantPutChanges(t, l, changesBytes(l))
		wantGetChanges(t, changesBytes(l), l, api.OK)
	}
}

func TestChangesThatAreGoneHaveNothingButAnId(t *testing.T) {
	for _, more := range []api.Item{
		{Vec: []int32{0}}, {Vec: []int32{1, 2}}, {Tags: []string{""}}, {Tags: []string{"a"}}, {Id: 5, Vec: []int32{1}, Tags: []string{"t"}}, {Vec: make([]int32, api.MaxItems+1)},
	} {
		gone := api.Change{Gone: true, Item: more}
		for _, l := range [][]api.Change{{gone}, {{}, gone}, {gone, {}}, {{Gone: true}, gone, {Gone: true, Item: api.Item{Id: 1}}}} {
			wantUnwrittenChanges(t, l)
			wantUnwritten(t, api.Message{Kind: api.Write, Changes: l})
		}
		if len(more.Vec) <= api.MaxItems {
			l := []api.Change{{Item: more}, {Gone: true, Item: api.Item{Id: more.Id}}}
			wantPutChanges(t, l, changesBytes(l))
			wantGetChanges(t, changesBytes(l), l, api.OK)
		}
	}
}

func TestTooManyChanges(t *testing.T) {
	for _, n := range []int{api.MaxItems + 1, 1000} {
		for _, c := range []api.Change{{}, {Gone: true}} {
			l := many(n, func(int) api.Change { return c })
			wantUnwrittenChanges(t, l)
			wantGetChanges(t, changesBytes(l), nil, api.ErrForm)
		}
	}
}

func TestBytesThatAreNoChanges(t *testing.T) {
	lists := [][]api.Change{nil, {{}}, {{Gone: true}}, everything().Changes}
	for _, c := range lists {
		l := spelled(reflect.ValueOf(c))
		b := glued(l)
		for n := range b {
			wantGetChanges(t, b[:n], nil, api.ErrEnd)
		}
		for _, more := range [][]byte{{0}, {128}, {128, 0}, b} {
			wantGetChanges(t, slices.Concat(b, more), nil, api.ErrMore)
		}
		for i := range l {
			for _, f := range l[i].faults() {
				wantGetChanges(t, with(l, i, f.b), nil, f.e)
				wantGetChanges(t, append(glued(l[:i]), f.b...), nil, f.e)
				for j := i + 1; j < len(l); j++ {
					for _, g := range l[j].faults() {
						both := slices.Clone(l)
						both[i].b, both[j].b = f.b, g.b
						wantGetChanges(t, glued(both), nil, f.e)
					}
				}
			}
		}
	}
	wantGetChanges(t, nil, nil, api.ErrEnd)
}

// P6.3

// wantBackAndForth wants Get and Put of b to be b again, if it is read, and both to do as is done slowly.
func wantBackAndForth(t *testing.T, kind byte, b []byte) {
	t.Helper()
	want, wantErr := slowGet(kind, b)
	wantGet(t, kind, b, want, wantErr)
	if wantErr == api.OK {
		x, _ := Get(kind, b)
		wantPut(t, x, b)
	}
}

func wantChangesBackAndForth(t *testing.T, b []byte) {
	t.Helper()
	want, wantErr := slowGetChanges(b)
	wantGetChanges(t, b, want, wantErr)
	if wantErr == api.OK {
		l, _ := GetChanges(b)
		wantPutChanges(t, l, b)
	}
}

func TestGetOfPutIsTheMessage(t *testing.T) {
	l := samples()
	for kind := byte(1); kind <= kinds; kind++ {
		l = append(l, only(kind, greatest()))
	}
	for _, x := range l {
		b, ok := Put(x)
		if !ok {
			t.Fatal(short(x))
		}
		wantGet(t, x.Kind, b, x, api.OK)
	}
}

func TestGetOfPutIsTheChanges(t *testing.T) {
	for _, x := range samples() {
		b, ok := PutChanges(x.Changes)
		if !ok {
			t.Fatal(short(x))
		}
		wantGetChanges(t, b, x.Changes, api.OK)
	}
}

// shortest does what is asked with all texts of at most n of those bytes.
func shortest(parts []byte, n int, do func(b []byte)) {
	l := [][]byte{nil}
	for len(l) > 0 {
		b := l[0]
		l = l[1:]
		do(b)
		for _, part := range parts {
			if len(b) < n {
				l = append(l, append(slices.Clone(b), part))
			}
		}
	}
}

func TestPutOfWhatGetTookFromFewBytes(t *testing.T) {
	parts := []byte{0, 1, 2, 3, 127, 128, 129, 255}
	for kind := range byte(kinds + 3) {
		shortest(parts, 4, func(b []byte) { wantBackAndForth(t, kind, b) })
		shortest([]byte{0, 1, 130}, 8, func(b []byte) { wantBackAndForth(t, kind, b) })
	}
	shortest(parts, 5, func(b []byte) { wantChangesBackAndForth(t, b) })
}

func TestPutOfWhatGetTookFromBytesThatWereChanged(t *testing.T) {
	d := &dice{9}
	took, refused := 0, map[api.Errno]int{}
	for seed := range uint32(150) {
		for _, x := range thrown(seed) {
			b := messageBytes(x)
			for range 4 {
				c := slices.Clone(b)
				switch at := d.below(len(c)); d.below(4) {
				case 0:
					c[at] = byte(d.below(256))
				case 1:
					c = slices.Insert(c, at, byte(d.below(256)))
				case 2:
					c = slices.Delete(c, at, at+1)
				case 3:
					c[at] ^= 1 << d.below(8)
				}
				wantBackAndForth(t, x.Kind, c)
				if _, e := Get(x.Kind, c); e == api.OK {
					took++
				} else {
					refused[e]++
				}
			}
		}
	}
	// Otherwise this test would say little.
	if took < 1000 || refused[api.ErrEnd] < 100 || refused[api.ErrVar] < 100 || refused[api.ErrForm] < 100 || refused[api.ErrMore] < 100 {
		t.Error(took, refused)
	}
}

func TestPutOfWhatGetChangesTookFromBytesThatWereChanged(t *testing.T) {
	d := &dice{11}
	for seed := range uint32(1000) {
		var l []api.Change
		(&dice{seed}).fill(reflect.ValueOf(&l).Elem())
		b := changesBytes(l)
		for range 10 {
			c := slices.Clone(b)
			c[d.below(len(c))] = byte(d.below(256))
			wantChangesBackAndForth(t, c)
		}
	}
}

func TestBytesOfOneKindReadAsAnother(t *testing.T) {
	for _, x := range samples() {
		b := messageBytes(x)
		for kind := range byte(kinds + 3) {
			wantBackAndForth(t, kind, b)
		}
		wantChangesBackAndForth(t, b)
	}
}

// The rules that hold everywhere

// eachList does what is asked with each list that stands in v, of whatever things.
func eachList(v reflect.Value, do func(l reflect.Value)) {
	switch v.Kind() {
	case reflect.Slice:
		do(v)
		for i := range v.Len() {
			eachList(v.Index(i), do)
		}
	case reflect.Struct:
		for i := range v.NumField() {
			eachList(v.Field(i), do)
		}
	}
}

// scribble makes everything in v something else.
func scribble(v reflect.Value) {
	switch v.Kind() {
	case reflect.Bool:
		v.SetBool(!v.Bool())
	case reflect.Uint8, reflect.Uint16, reflect.Uint32, reflect.Uint64:
		v.SetUint(v.Uint() ^ 0x55)
	case reflect.Int32, reflect.Int64:
		v.SetInt(v.Int() ^ 0x55)
	case reflect.String:
		v.SetString(v.String() + "!")
	case reflect.Slice:
		all := v.Slice(0, v.Cap())
		for i := range all.Len() {
			scribble(all.Index(i))
		}
	case reflect.Struct:
		for i := range v.NumField() {
			scribble(v.Field(i))
		}
	}
}

// stretch gives each list in v spare room, with something in it.
func stretch(v reflect.Value) {
	eachList(v, func(l reflect.Value) {
		n := l.Len()
		wide := reflect.MakeSlice(l.Type(), n+2, n+2)
		reflect.Copy(wide, l)
		scribble(wide.Index(n))
		scribble(wide.Index(n + 1))
		l.Set(wide.Slice(0, n))
	})
}

// picture tells all that is in v, in the lists' spare room too.
func picture(v reflect.Value) string {
	switch v.Kind() {
	case reflect.Slice:
		s := fmt.Sprint(v.Len(), "of")
		all := v.Slice(0, v.Cap())
		for i := range all.Len() {
			s += "," + picture(all.Index(i))
		}
		return s
	case reflect.Struct:
		s := ""
		for i := range v.NumField() {
			s += ";" + picture(v.Field(i))
		}
		return s
	}
	return fmt.Sprintf("%#v", v.Interface())
}

func TestWhatIsHandedToPutStaysAsItWas(t *testing.T) {
	l := samples()
	for kind := byte(1); kind <= kinds; kind++ {
		wild := everything() // with fields that the table doesn't name
		wild.Kind = kind
		l = append(l, wild)
	}
	for _, x := range l {
		v := reflect.ValueOf(&x).Elem()
		stretch(v)
		before := picture(v)
		Put(x)
		PutChanges(x.Changes)
		if picture(v) != before {
			t.Fatal(short(x))
		}
	}
}

func TestWhatIsHandedToGetStaysAsItWas(t *testing.T) {
	for _, x := range samples() {
		b := messageBytes(x)
		for _, n := range []int{len(b), len(b) - 1, 0} {
			room := append(slices.Clone(b), some(20, 7)...)
			before := slices.Clone(room)
			Get(x.Kind, room[:n])
			GetChanges(room[:n])
			if !bytes.Equal(room, before) {
				t.Fatal(short(x))
			}
		}
	}
}

func TestBytesShareNothingWithTheMessage(t *testing.T) {
	for _, sample := range samples() {
		x := sample
		v := reflect.ValueOf(&x).Elem()
		stretch(v)
		want := messageBytes(x)
		wantList := changesBytes(x.Changes)
		b, _ := Put(x)
		c, _ := PutChanges(x.Changes)
		again, _ := Put(x)
		before := picture(v)
		scribble(reflect.ValueOf(&again).Elem())
		if picture(v) != before || !bytes.Equal(b, want) {
			t.Fatal("the message, or other bytes, changed with bytes", short(x))
		}
		scribble(v)
		if !bytes.Equal(b, want) || !bytes.Equal(c, wantList) {
			t.Fatal("the bytes changed with the message", short(x))
		}
		wantPut(t, sample, want) // nothing of it was kept
	}
}

func TestTheMessageSharesNothingWithItsBytes(t *testing.T) {
	for _, want := range samples() {
		b := messageBytes(want)
		x, _ := Get(want.Kind, b)
		y, _ := Get(want.Kind, b)
		before := slices.Clone(b)
		scribble(reflect.ValueOf(&y).Elem())
		if !bytes.Equal(b, before) || !same(x, want) {
			t.Fatal("the bytes, or another message, changed with a message", short(want))
		}
		scribble(reflect.ValueOf(&b).Elem())
		if !same(x, want) {
			t.Fatal("the message changed with the bytes", short(want))
		}
		wantGet(t, want.Kind, before, want, api.OK)
	}
}

func TestTheChangesShareNothingWithTheirBytes(t *testing.T) {
	for _, sample := range samples() {
		want := sample.Changes
		b := changesBytes(want)
		l, _ := GetChanges(b)
		m, _ := GetChanges(b)
		before := slices.Clone(b)
		scribble(reflect.ValueOf(&m).Elem())
		if !bytes.Equal(b, before) || !same(l, want) {
			t.Fatal("the bytes, or other changes, changed with changes", short(want))
		}
		scribble(reflect.ValueOf(&b).Elem())
		if !same(l, want) {
			t.Fatal("the changes changed with the bytes", short(want))
		}
		wantGetChanges(t, before, want, api.OK)
	}
}

func TestNoTwoListsOfAMessageShareMemory(t *testing.T) {
	for _, want := range samples() {
		x, _ := Get(want.Kind, messageBytes(want))
		eachList(reflect.ValueOf(&x).Elem(), func(l reflect.Value) {
			all := l.Slice(0, l.Cap())
			for i := l.Len(); i < all.Len(); i++ {
				scribble(all.Index(i))
			}
		})
		if !same(x, want) {
			t.Fatal("a list's spare room is another's", short(want))
		}
	}
}

func TestAnErrorLeavesNothingBehind(t *testing.T) {
	good := only(api.Answer, everything())
	b := messageBytes(good)
	for n := range b {
		Get(api.Answer, b[:n])
		GetChanges(b[:n])
		Put(api.Message{Kind: api.Answer, Names: good.Names, N: 1})
		wantGet(t, api.Answer, b, good, api.OK)
		wantPut(t, good, b)
	}
}
