package tags

import (
	"slices"
	"strconv"
	"strings"
	"testing"

	"lodestar/api"
)

// filled gives a tag of n bytes.
func filled(n int) string {
	return strings.Repeat("x", n)
}

// rising gives n tags that rise, n at most 676.
func rising(n int) []string {
	l := make([]string, n)
	for i := range l {
		l[i] = string([]byte{'a' + byte(i/26), 'a' + byte(i%26)})
	}
	return l
}

// turned gives l the other way round.
func turned(l []string) []string {
	back := slices.Clone(l)
	slices.Reverse(back)
	return back
}

// list is a list of tags with the error that the document has for it.
type list struct {
	name string
	l    []string
	want api.Errno
}

// lists gives tags that may be, and tags that may not.
func lists() []list {
	return []list{
		{"nil", nil, api.OK},
		{"empty", []string{}, api.OK},
		{"one", []string{"a"}, api.OK},
		{"two", []string{"a", "b"}, api.OK},
		{"one less than MaxTags", rising(7), api.OK},
		{"MaxTags", rising(8), api.OK},
		{"one byte", []string{"x"}, api.OK},
		{"one less than MaxTag bytes", []string{filled(15)}, api.OK},
		{"MaxTag bytes", []string{filled(16)}, api.OK},
		{"MaxTag bytes of fewer runes", []string{strings.Repeat("é", 8)}, api.OK},
		{"rising in the last byte alone", []string{filled(15) + "a", filled(15) + "b"}, api.OK},
		{"rising in the first byte alone", []string{"a" + filled(15), "b" + filled(15)}, api.OK},
		{"rising in length alone", []string{"a", "aa", "aaa"}, api.OK},
		{"rising in length by a zero byte", []string{"a", "a\x00"}, api.OK},
		{"rising, yet ever shorter", []string{"aaa", "bb", "c"}, api.OK},
		{"great letters ahead of small ones", []string{"B", "a"}, api.OK},
		{"digits by bytes, not by number", []string{"10", "9"}, api.OK},
		{"the zero byte", []string{"\x00"}, api.OK},
		{"a space", []string{" "}, api.OK},
		{"bytes beyond ASCII", []string{"\x00", "\x7f", "\x80", "\xff"}, api.OK},
		{"bytes of a rune", []string{"e", "é", "\xff"}, api.OK},
		{"runes by their bytes", []string{"\uffff", "\U00010000"}, api.OK},
		{"the greatest bytes", []string{strings.Repeat("\xff", 15), strings.Repeat("\xff", 16)}, api.OK},
		{"MaxTags tags, the last of MaxTag bytes", append(rising(7), filled(16)), api.OK},

		{"no byte", []string{""}, api.ErrTag},
		{"no byte, ahead of another", []string{"", "a"}, api.ErrTag},
		{"no byte, behind another", []string{"a", ""}, api.ErrTag},
		{"one more than MaxTag bytes", []string{filled(17)}, api.ErrTag},
		{"one more than MaxTag bytes, ahead", []string{filled(17), "y"}, api.ErrTag},
		{"one more than MaxTag bytes, at last", append(rising(7), filled(17)), api.ErrTag},
		{"runes of more than MaxTag bytes", []string{strings.Repeat("é", 9)}, api.ErrTag},
		{"very many bytes", []string{filled(1 << 16)}, api.ErrTag},
		{"one more than MaxTags", rising(9), api.ErrTag},
		{"very many", rising(600), api.ErrTag},
		{"alike", []string{"a", "a"}, api.ErrTag},
		{"alike, the zero byte", []string{"\x00", "\x00"}, api.ErrTag},
		{"alike ahead", []string{"a", "a", "b"}, api.ErrTag},
		{"alike at last", []string{"a", "b", "b"}, api.ErrTag},
		{"alike, more than MaxTags", slices.Repeat([]string{"a"}, 9), api.ErrTag},
		{"falling", []string{"b", "a"}, api.ErrTag},
		{"falling ahead", []string{"b", "a", "c"}, api.ErrTag},
		{"falling at last", append(rising(7), "ac"), api.ErrTag},
		{"falling, but not below the first", []string{"a", "c", "b"}, api.ErrTag},
		{"falling in the last byte alone", []string{filled(15) + "b", filled(15) + "a"}, api.ErrTag},
		{"falling in the first byte alone", []string{"b" + filled(15), "a" + filled(15)}, api.ErrTag},
		{"falling in length alone", []string{"aa", "a"}, api.ErrTag},
		{"falling, yet ever longer", []string{"c", "bb", "aaa"}, api.ErrTag},
		{"falling by a zero byte", []string{"a\x00", "a"}, api.ErrTag},
		{"bytes beyond ASCII are no lesser", []string{"\x80", "\x7f"}, api.ErrTag},
		{"small letters ahead of great ones", []string{"a", "B"}, api.ErrTag},
	}
}

// P3.1

func TestCheckTells(t *testing.T) {
	for _, c := range lists() {
		if got := Check(c.l); got != c.want {
			t.Errorf("%s: %d, not %d", c.name, got, c.want)
		}
	}
}

func TestCheckOfEachLength(t *testing.T) {
	for n := range 40 {
		want := api.ErrTag
		if n >= 1 && n <= 16 {
			want = api.OK
		}
		if got := Check([]string{filled(n)}); got != want {
			t.Errorf("a tag of %d bytes: %d", n, got)
		}
		if got := Check([]string{"a", filled(n)}); got != want {
			t.Errorf("a second tag of %d bytes: %d", n, got)
		}
	}
}

func TestCheckOfEachCount(t *testing.T) {
	for n := range 40 {
		want := api.OK
		if n > 8 {
			want = api.ErrTag
		}
		if got := Check(rising(n)); got != want {
			t.Errorf("%d tags: %d", n, got)
		}
	}
}

func TestCheckOfEachByte(t *testing.T) {
	for a := range 256 {
		for b := range 256 {
			want := api.ErrTag
			if a < b {
				want = api.OK
			}
			for _, head := range []string{"", "x", filled(15)} {
				l := []string{head + string([]byte{byte(a)}), head + string([]byte{byte(b)})}
				if got := Check(l); got != want {
					t.Errorf("%q: %d", l, got)
				}
			}
		}
	}
}

func TestCheckAsksEachTag(t *testing.T) {
	for n := 1; n <= 8; n++ {
		for i := range n {
			for _, wrong := range []string{"", filled(17)} {
				l := rising(n)
				l[i] = wrong
				if Check(l) != api.ErrTag {
					t.Errorf("%q may be", l)
				}
			}
			long := rising(n)
			long[i] += filled(15)
			if Check(long) != api.ErrTag {
				t.Errorf("%q may be", long)
			}
			if i > 0 {
				same := rising(n)
				same[i] = same[i-1]
				if Check(same) != api.ErrTag {
					t.Errorf("%q may be", same)
				}
			}
		}
	}
}

func TestRightAsksEachList(t *testing.T) {
	for _, c := range lists() {
		for _, other := range [][]string{nil, {"q", "r"}} {
			for i, f := range []api.Filter{
				{All: c.l, Any: other, None: other},
				{All: other, Any: c.l, None: other},
				{All: other, Any: other, None: c.l},
				{All: c.l, Any: c.l, None: c.l},
			} {
				if got := Right(f); got != c.want {
					t.Errorf("%s, filter %d: %d, not %d", c.name, i, got, c.want)
				}
			}
		}
	}
}

func TestRightOfListsTogether(t *testing.T) {
	for _, f := range []api.Filter{
		{},
		{All: []string{}, Any: []string{}, None: []string{}},
		{All: rising(8), Any: rising(8), None: rising(8)},
		{All: []string{"c"}, Any: []string{"b"}, None: []string{"a"}},
		{All: []string{"a"}, Any: []string{"a"}, None: []string{"a"}},
		{All: []string{filled(16)}, Any: []string{filled(16)}, None: []string{filled(16)}},
	} {
		if got := Right(f); got != api.OK {
			t.Errorf("%q: %d", f, got)
		}
	}
	for _, f := range []api.Filter{
		{All: []string{""}, Any: []string{filled(17)}},
		{Any: []string{"b", "a"}, None: rising(9)},
		{All: []string{"a", "a"}, None: []string{""}},
	} {
		if got := Right(f); got != api.ErrTag {
			t.Errorf("%q: %d", f, got)
		}
	}
}

// P3.2

func TestMatchTells(t *testing.T) {
	f := api.Filter{All: []string{"a"}, Any: []string{"b", "c"}, None: []string{"d"}}
	for _, c := range []struct {
		name string
		f    api.Filter
		l    []string
		want bool
	}{
		{"the chapter's: a b", f, []string{"a", "b"}, true},
		{"the chapter's: a", f, []string{"a"}, false},
		{"the chapter's: a c d", f, []string{"a", "c", "d"}, false},
		{"both of Any", f, []string{"a", "b", "c"}, true},
		{"the last of Any", f, []string{"a", "c"}, true},
		{"not All", f, []string{"b", "c"}, false},
		{"None alone", f, []string{"d"}, false},
		{"no tags", f, nil, false},
		{"others beside", f, []string{"A", "a", "aa", "c", "e"}, true},

		{"one of All", api.Filter{All: []string{"a"}}, []string{"a"}, true},
		{"one of two of All", api.Filter{All: []string{"a", "b"}}, []string{"a"}, false},
		{"the other of two of All", api.Filter{All: []string{"a", "b"}}, []string{"b"}, false},
		{"two of two of All", api.Filter{All: []string{"a", "b"}}, []string{"a", "b"}, true},
		{"All, no tags", api.Filter{All: []string{"a"}}, nil, false},
		{"Any, no tags", api.Filter{Any: []string{"a"}}, nil, false},
		{"None, no tags", api.Filter{None: []string{"a"}}, nil, true},
		{"none of Any", api.Filter{Any: []string{"a", "b"}}, []string{"c"}, false},
		{"none of Any, but All", api.Filter{All: []string{"c"}, Any: []string{"a"}}, []string{"c"}, false},
		{"Any empty", api.Filter{All: []string{"c"}, Any: []string{}}, []string{"c"}, true},
		{"none of None", api.Filter{None: []string{"a", "b"}}, []string{"c"}, true},
		{"the last of None", api.Filter{None: []string{"a", "b"}}, []string{"b", "c"}, false},
		{"one tag in Any and None", api.Filter{Any: []string{"a", "b"}, None: []string{"a"}}, []string{"a", "b"}, false},
		{"one tag in Any and None, the other is there", api.Filter{Any: []string{"a", "b"}, None: []string{"a"}}, []string{"b"}, true},

		{"a tag is not its beginning", api.Filter{All: []string{"a"}}, []string{"aa"}, false},
		{"a tag is not what it begins", api.Filter{All: []string{"aa"}}, []string{"a"}, false},
		{"the last byte counts", api.Filter{All: []string{filled(15) + "a"}}, []string{filled(15) + "b"}, false},
		{"great letters are others", api.Filter{Any: []string{"A"}}, []string{"a"}, false},
		{"a zero byte counts", api.Filter{None: []string{"a\x00"}}, []string{"a"}, true},
		{"bytes beyond ASCII", api.Filter{All: []string{"\xff"}, None: []string{"\xfe"}}, []string{"\x80", "\xff"}, true},
		{"bytes beyond ASCII, another", api.Filter{All: []string{"\xff"}}, []string{"\xfe"}, false},
		{"one rune written in two ways", api.Filter{Any: []string{"é"}}, []string{"e\u0301"}, false},
		{"MaxTags of each", api.Filter{All: rising(8), Any: rising(8), None: []string{"zz"}}, rising(8), true},
		{"the last of MaxTags is missing", api.Filter{All: rising(8)}, rising(7), false},
	} {
		if got := Match(c.f, c.l); got != c.want {
			t.Errorf("%s: %t", c.name, got)
		}
	}
}

func TestMatchOfWhatMayNotBe(t *testing.T) {
	long := filled(17)
	for _, c := range []struct {
		name string
		f    api.Filter
		l    []string
		want bool
	}{
		{"falling tags", api.Filter{All: []string{"a", "b", "c"}}, []string{"c", "a", "b"}, true},
		{"a falling filter", api.Filter{All: []string{"c", "a", "b"}}, []string{"a", "b", "c"}, true},
		{"a falling Any", api.Filter{Any: []string{"c", "a"}}, []string{"a"}, true},
		{"a falling None", api.Filter{None: []string{"c", "a"}}, []string{"a"}, false},
		{"falling both", api.Filter{All: []string{"c", "b"}, Any: []string{"b", "a"}, None: []string{"e", "d"}}, []string{"c", "b"}, true},
		{"All twice, once there", api.Filter{All: []string{"a", "a"}}, []string{"a"}, true},
		{"tags twice", api.Filter{All: []string{"a"}}, []string{"a", "a"}, true},
		{"tags twice are no others", api.Filter{All: []string{"a", "b"}}, []string{"a", "a"}, false},
		{"the tag of no byte is there", api.Filter{All: []string{""}}, []string{"a", ""}, true},
		{"the tag of no byte is missing", api.Filter{All: []string{""}}, []string{"a"}, false},
		{"the tag of no byte in Any", api.Filter{Any: []string{""}}, []string{"a"}, false},
		{"the tag of no byte in Any, there", api.Filter{Any: []string{""}}, []string{""}, true},
		{"the tag of no byte in None", api.Filter{None: []string{""}}, []string{"a"}, true},
		{"the tag of no byte in None, there", api.Filter{None: []string{""}}, []string{"", "a"}, false},
		{"a long tag is there", api.Filter{All: []string{long}}, []string{"a", long}, true},
		{"a long tag's last byte", api.Filter{All: []string{long}}, []string{filled(16) + "y"}, false},
		{"a long tag in None", api.Filter{None: []string{long}}, []string{filled(16)}, true},
		{"a long tag in None, there", api.Filter{None: []string{long}}, []string{long}, false},
		{"many tags", api.Filter{All: []string{"az"}, None: []string{"zz"}}, rising(600), true},
		{"more than MaxTags of All", api.Filter{All: rising(100)}, rising(600), true},
		{"more than MaxTags of All, the last is missing", api.Filter{All: rising(100)}, rising(99), false},
		{"more than MaxTags of Any", api.Filter{Any: rising(100)}, rising(100)[99:], true},
		{"more than MaxTags of None", api.Filter{None: rising(100)}, rising(100)[99:], false},
		{"more than MaxTags of None, none there", api.Filter{None: rising(100)}, rising(101)[100:], true},
	} {
		if got := Match(c.f, c.l); got != c.want {
			t.Errorf("%s: %t", c.name, got)
		}
	}
}

// picked gives those of four tags whose bits are set.
func picked(bits int) []string {
	var l []string
	for i, tag := range []string{"", "a", "aa", "b"} {
		if bits>>i&1 == 1 {
			l = append(l, tag)
		}
	}
	return l
}

// wanted tells by bits what Match tells by lists.
func wanted(all, any, none, have int) bool {
	return all&^have == 0 && (any == 0 || any&have != 0) && none&have == 0
}

func TestMatchOfAllFiltersOfFourTags(t *testing.T) {
	for all := range 16 {
		for any := range 16 {
			for none := range 16 {
				f := api.Filter{All: picked(all), Any: picked(any), None: picked(none)}
				mixed := api.Filter{All: turned(f.All), Any: slices.Repeat(f.Any, 2), None: turned(slices.Repeat(f.None, 3))}
				for have := range 16 {
					l, want := picked(have), wanted(all, any, none, have)
					if Match(f, l) != want || Match(f, turned(l)) != want {
						t.Errorf("%q is told %t of %q", f, !want, l)
					}
					if Match(mixed, l) != want || Match(mixed, slices.Repeat(l, 2)) != want {
						t.Errorf("%q is told %t of %q", mixed, !want, l)
					}
				}
			}
		}
	}
}

// P3.3

func TestSortTells(t *testing.T) {
	for _, c := range []struct {
		name    string
		l, want []string
	}{
		{"the chapter's example", []string{"b", "a", "b"}, []string{"a", "b"}},
		{"nil", nil, nil},
		{"empty", []string{}, nil},
		{"one", []string{"a"}, []string{"a"}},
		{"rising already", []string{"a", "b", "c"}, []string{"a", "b", "c"}},
		{"falling", []string{"c", "b", "a"}, []string{"a", "b", "c"}},
		{"all alike", []string{"a", "a", "a"}, []string{"a"}},
		{"alike, apart", []string{"a", "b", "a", "c", "b"}, []string{"a", "b", "c"}},
		{"by length alone", []string{"aaa", "a", "aa"}, []string{"a", "aa", "aaa"}},
		{"by the last byte alone", []string{filled(15) + "b", filled(15) + "a"}, []string{filled(15) + "a", filled(15) + "b"}},
		{"by bytes, not by length", []string{"b", "aa", "10", "9"}, []string{"10", "9", "aa", "b"}},
		{"great letters first", []string{"a", "B", "b", "A"}, []string{"A", "B", "a", "b"}},
		{"bytes beyond ASCII", []string{"\xff", "\x00", "\x80", "\x7f"}, []string{"\x00", "\x7f", "\x80", "\xff"}},
		{"runes by their bytes", []string{"\U00010000", "\uffff", "é"}, []string{"é", "\uffff", "\U00010000"}},
		{"a byte, and MaxTag bytes", []string{filled(16), "x"}, []string{"x", filled(16)}},
		{"MaxTags", turned(rising(8)), rising(8)},
		{"more than MaxTags, MaxTags of them unlike", slices.Concat(turned(rising(8)), rising(8)), rising(8)},
		{"one more than MaxTags, two alike", append(rising(8), "ad"), rising(8)},
		{"very many, one of them unlike", append(slices.Repeat([]string{"b"}, 5000), "a"), []string{"a", "b"}},
		{"very many, MaxTags of them unlike", slices.Repeat(turned(rising(8)), 1000), rising(8)},
	} {
		if got, e := Sort(c.l); e != api.OK || !slices.Equal(got, c.want) {
			t.Errorf("%s: %q, %d", c.name, got, e)
		}
	}
}

func TestSortRefuses(t *testing.T) {
	for _, c := range []struct {
		name string
		l    []string
	}{
		{"no byte", []string{""}},
		{"no byte twice", []string{"", ""}},
		{"no byte among others", []string{"b", "", "a"}},
		{"one more than MaxTag bytes", []string{filled(17)}},
		{"one more than MaxTag bytes, twice", []string{filled(17), filled(17)}},
		{"one more than MaxTag bytes, among others", []string{"y", filled(17), "a"}},
		{"runes of more than MaxTag bytes", []string{strings.Repeat("é", 9)}},
		{"one more than MaxTags", rising(9)},
		{"one more than MaxTags, falling", turned(rising(9))},
		{"one more than MaxTags, each twice", slices.Repeat(rising(9), 2)},
		{"very many", turned(rising(600))},
		{"MaxTags and no byte", append(rising(8), "")},
	} {
		if got, e := Sort(c.l); e != api.ErrTag || len(got) != 0 {
			t.Errorf("%s: %q, %d", c.name, got, e)
		}
	}
}

func TestSortOfEachCount(t *testing.T) {
	for n := range 20 {
		for times := 1; times <= 3; times++ {
			got, e := Sort(turned(slices.Repeat(rising(n), times)))
			if n <= 8 && (e != api.OK || !slices.Equal(got, rising(n))) || n > 8 && (e != api.ErrTag || len(got) != 0) {
				t.Errorf("%d tags, %d times: %q, %d", n, times, got, e)
			}
		}
	}
}

// orders calls each with every order of l.
func orders(l []string, each func([]string)) {
	var from func(i int)
	from = func(i int) {
		if i == len(l) {
			each(l)
			return
		}
		for j := i; j < len(l); j++ {
			l[i], l[j] = l[j], l[i]
			from(i + 1)
			l[i], l[j] = l[j], l[i]
		}
	}
	from(0)
}

func TestSortOfEachOrder(t *testing.T) {
	want := []string{"B", "a", "aa", "b", "\xff"}
	orders([]string{"a", "aa", "b", "a", "\xff", "B", "\xff"}, func(l []string) {
		if got, e := Sort(l); e != api.OK || !slices.Equal(got, want) {
			t.Errorf("%q: %q, %d", l, got, e)
		}
	})
}

func TestWhatSortTellsMayBe(t *testing.T) {
	for _, c := range lists() {
		got, e := Sort(c.l)
		if e == api.OK && Check(got) != api.OK {
			t.Errorf("%s: %q may not be", c.name, got)
		}
		if c.want == api.OK && (e != api.OK || !slices.Equal(got, c.l)) {
			t.Errorf("%s: %q, %d", c.name, got, e)
		}
	}
}

// P3.4

func TestTheEmptyFilterMatchesEverything(t *testing.T) {
	for _, f := range []api.Filter{{}, {All: []string{}, Any: []string{}, None: []string{}}} {
		for _, c := range lists() {
			if !Match(f, c.l) {
				t.Errorf("%s: not matched", c.name)
			}
		}
	}
}

func TestATagInAllAndInNone(t *testing.T) {
	for all := range 16 {
		for any := range 16 {
			for none := range 16 {
				if all&none == 0 {
					continue
				}
				f := api.Filter{All: picked(all), Any: picked(any), None: picked(none)}
				for have := range 16 {
					if Match(f, picked(have)) {
						t.Errorf("%q matches %q", f, picked(have))
					}
				}
			}
		}
	}
	f := api.Filter{All: []string{"a"}, None: []string{"a"}}
	for _, c := range lists() {
		if Match(f, c.l) {
			t.Errorf("%s: matched", c.name)
		}
	}
}

func TestWhatHasMoreTagsIsMatchedByNoFewerWithoutNone(t *testing.T) {
	for all := range 16 {
		for any := range 16 {
			f := api.Filter{All: picked(all), Any: picked(any)}
			for have := range 16 {
				for more := range 16 {
					if Match(f, picked(have)) && !Match(f, picked(have|more)) {
						t.Errorf("%q matches %q, but not %q", f, picked(have), picked(have|more))
					}
				}
			}
		}
	}
	for n := range 20 {
		for _, f := range []api.Filter{{All: rising(n)}, {Any: rising(n)}, {All: rising(n), Any: rising(n)}} {
			for have := range 20 {
				if Match(f, rising(have)) && !Match(f, rising(have+1)) {
					t.Errorf("%q matches %d tags, but not %d", f, have, have+1)
				}
			}
		}
	}
}

// The rules that hold everywhere

// roomy gives a list of the tags of l, with spare room that has tags as well, and the whole of both.
func roomy(l []string) (list, whole []string) {
	whole = slices.Concat(l, []string{"spare", "room", ""})
	return whole[:len(l)], whole
}

// overwrite writes over a list, and over its spare room.
func overwrite(l []string) {
	for i := range l[:cap(l)] {
		l[:cap(l)][i] = "over " + strconv.Itoa(i)
	}
}

// handed gives lists of which some may be, and some may not.
func handed() [][]string {
	return [][]string{
		nil, {"a"}, {"a", "b"}, {"b", "a", "b"}, {"c", "b", "a"}, {"a", "a", "a"}, {"b", ""},
		{filled(17), "a"}, rising(8), turned(rising(8)), turned(rising(9)), slices.Repeat(turned(rising(8)), 3),
	}
}

func TestAllLeaveWhatTheyAreHandedAsItWas(t *testing.T) {
	for _, kept := range handed() {
		for name, call := range map[string]func(l []string){
			"Check":         func(l []string) { Check(l) },
			"Right":         func(l []string) { Right(api.Filter{All: l, Any: l, None: l}) },
			"Match, tags":   func(l []string) { Match(api.Filter{All: []string{"a"}, Any: []string{"b"}, None: []string{"c"}}, l) },
			"Match, filter": func(l []string) { Match(api.Filter{All: l, Any: l, None: l}, []string{"b", "a"}) },
			"Match, Any":    func(l []string) { Match(api.Filter{Any: l}, []string{"b", "a"}) },
			"Match, None":   func(l []string) { Match(api.Filter{None: l}, []string{"z"}) },
			"Sort":          func(l []string) { Sort(l) },
		} {
			l, whole := roomy(kept)
			before := slices.Clone(whole)
			call(l)
			if !slices.Equal(whole, before) {
				t.Errorf("%s: %q has become %q", name, before, whole)
			}
		}
	}
}

func TestWhatSortTellsSharesNoMemory(t *testing.T) {
	for _, kept := range handed() {
		l, whole := roomy(kept)
		before := slices.Clone(whole)
		first, e := Sort(l)
		if e != api.OK {
			continue
		}
		second, _ := Sort(l)
		third, _ := Sort(first)
		want := slices.Clone(second)
		overwrite(first)
		if !slices.Equal(whole, before) {
			t.Errorf("%q shares memory with what was told", before)
		}
		if !slices.Equal(second, want) || !slices.Equal(third, want) {
			t.Errorf("%q: two answers share memory", before)
		}
		overwrite(whole)
		if !slices.Equal(second, want) {
			t.Errorf("%q: what was told shares memory with it", before)
		}
	}
}

func TestTheSameIsToldAgain(t *testing.T) {
	f := api.Filter{All: []string{"a"}, Any: []string{"b", "c"}, None: []string{"d"}}
	for _, l := range handed() {
		check, match := Check(l), Match(f, l)
		sorted, e := Sort(l)
		for range 3 {
			again, same := Sort(l)
			if Check(l) != check || Match(f, l) != match || same != e || !slices.Equal(again, sorted) {
				t.Errorf("%q", l)
			}
		}
	}
}
