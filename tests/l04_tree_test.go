package tests

import (
	"math"
	"math/rand"
	"slices"
	"strconv"
	"strings"
	"sync"
	"testing"

	"loop.example/g00795/impl"
)

// A choice is what may stand in a field, and the code that it alone leads to.
type choice[T any] struct {
	name  string
	value T
	code  int64
}

var depthChoices = []choice[int64]{
	{"Depth 0", 0, impl.OK},
	{"Depth 3", 3, impl.OK},
	{"Depth 6", 6, impl.OK},
	{"Depth 7", 7, impl.ErrRange},
	{"Depth -1", -1, impl.ErrRange},
	{"the least Depth", math.MinInt64, impl.ErrRange},
	{"the greatest Depth", math.MaxInt64, impl.ErrRange},
	{"Depth 4294967296", 1 << 32, impl.ErrRange},
}

// textChoices are texts by their TextFault.
var textChoices = []choice[string]{
	{"a byte", "x", impl.OK},
	{"signs that mean something", "<&>\"'\t\n", impl.OK},
	{"blanks", "  ", impl.OK},
	{"60 bytes", strings.Repeat("x", 60), impl.OK},
	{"60 bytes in points of three", strings.Repeat("\xe2\x82\xac", 20), impl.OK},
	{"61 bytes", strings.Repeat("x", 61), impl.ErrMany},
	{"61 bytes that are no signs", strings.Repeat("\x00", 61), impl.ErrMany},
	{"a byte 0", "x\x00", impl.ErrText},
	{"half a point", "x\xe2\x82", impl.ErrText},
	{"a carriage return", "\r", impl.ErrText},
}

var nameChoices = []choice[string]{
	{"a letter", "a", impl.OK},
	{"20 bytes", "a" + strings.Repeat("-", 19), impl.OK},
	{"xmlns", "xmlns", impl.OK},
	{"21 bytes", strings.Repeat("a", 21), impl.ErrText},
	{"a digit ahead", "1a", impl.ErrText},
	{"a prefix", "a:b", impl.ErrText},
	{"a name with a blank", "a ", impl.ErrText},
	{"xml:lang", "xml:lang", impl.ErrText},
	{"61 bytes", strings.Repeat("a", 61), impl.ErrText},
	{"a byte 0", "\x00", impl.ErrText},
}

var attrsChoices = []choice[[]impl.Attr]{
	{"none", nil, impl.OK},
	{"an empty list", []impl.Attr{}, impl.OK},
	{"one", attrsOf("a", ""), impl.OK},
	{"one of 60 bytes", attrsOf("a", strings.Repeat("x", 60)), impl.OK},
	{"five", attrsOf("a", "1", "b", "1", "c", "1", "d", "1", "e", "1"), impl.OK},
	{"one begins with another one", attrsOf("a", "", "a-", "", "a0", "", "aa", ""), impl.OK},
	{"great letters ahead", attrsOf("B", "", "_", "", "a", ""), impl.OK},
	{"all that stands about a colon", attrsOf("xml-a", "", "xml.a", "", "xml9", "", "xml:lang", "de", "xmlA", ""), impl.OK},
	{"six", attrsOf("a", "", "b", "", "c", "", "d", "", "e", "", "f", ""), impl.ErrMany},
	{"six with faults", attrsOf("1", "\x00", "1", "\x00", "c", "", "d", "", "e", "", "f", ""), impl.ErrMany},
	{"six alike", slices.Repeat(attrsOf("a", ""), 6), impl.ErrMany},
	{"very many", slices.Repeat(attrsOf("a", ""), 1<<16), impl.ErrMany},
	{"no name", attrsOf("", ""), impl.ErrText},
	{"xmlns", attrsOf("xmlns", "u"), impl.ErrText},
	{"another name with a colon", attrsOf("xml:base", ""), impl.ErrText},
	{"a name that is none", attrsOf("1", ""), impl.ErrText},
	{"a name that is none at the end", attrsOf("a", "", "b", "", "c", "", "d", "", "e ", ""), impl.ErrText},
	{"a value of 61 bytes", attrsOf("a", strings.Repeat("x", 61)), impl.ErrMany},
	{"a value of 61 bytes at the end", attrsOf("a", "", "b", strings.Repeat("x", 61)), impl.ErrMany},
	{"a value with a byte 0", attrsOf("a", "\x00"), impl.ErrText},
	{"a name that is none, with a long value", attrsOf("1", strings.Repeat("x", 61)), impl.ErrText},
	{"a long value, then a name that is none", attrsOf("a", strings.Repeat("x", 61), "1", ""), impl.ErrMany},
	{"a name that is none, then a long value", attrsOf("1", "", "a", strings.Repeat("x", 61)), impl.ErrText},
	{"a byte 0, then a long value", attrsOf("a", "\x00", "b", strings.Repeat("x", 61)), impl.ErrText},
	{"a long value, then a byte 0", attrsOf("a", strings.Repeat("x", 61), "b", "\x00"), impl.ErrMany},
	{"two alike", attrsOf("a", "1", "a", "2"), impl.ErrTaken},
	{"two the same", attrsOf("a", "1", "a", "1"), impl.ErrTaken},
	{"two alike at the end", attrsOf("a", "", "b", "", "c", "", "d", "", "d", ""), impl.ErrTaken},
	{"two alike, but not side by side", attrsOf("a", "", "b", "", "a", ""), impl.ErrTaken},
	{"two that fall", attrsOf("b", "", "a", ""), impl.ErrTaken},
	{"two that fall at the end", attrsOf("a", "", "b", "", "c", "", "e", "", "d", ""), impl.ErrTaken},
	{"small letters ahead", attrsOf("a", "", "B", ""), impl.ErrTaken},
	{"one that another one ahead begins with", attrsOf("aa", "", "a", ""), impl.ErrTaken},
	{"two that fall, then a long value", attrsOf("b", "", "a", strings.Repeat("x", 61)), impl.ErrMany},
	{"two alike, then a name that is none", attrsOf("a", "", "a", "", "1", ""), impl.ErrText},
	{"two alike, then a value with a byte 0", attrsOf("a", "", "a", "", "b", "\x00"), impl.ErrText},
}

// attrsOf are Attrs by their Names and Values.
func attrsOf(words ...string) []impl.Attr {
	var list []impl.Attr
	for i := 0; i < len(words); i += 2 {
		list = append(list, impl.Attr{Name: words[i], Value: words[i+1]})
	}
	return list
}

// firstOf is the first of the codes that is one.
func firstOf(codes ...int64) int64 {
	for _, code := range codes {
		if code != impl.OK {
			return code
		}
	}
	return impl.OK
}

func formIf(fault bool) int64 {
	if fault {
		return impl.ErrForm
	}
	return impl.OK
}

func sameLists(a, b []impl.Item) bool {
	return slices.EqualFunc(a, b, func(x, y impl.Item) bool {
		return x.Depth == y.Depth && x.Text == y.Text && x.Space == y.Space && x.Name == y.Name && slices.Equal(x.Attrs, y.Attrs)
	})
}

func copyOf(items []impl.Item) []impl.Item {
	list := slices.Clone(items)
	for i := range list {
		list[i].Attrs = slices.Clone(list[i].Attrs)
	}
	return list
}

// behindElement reads an element of that depth and what is in it from the
// front of items, and tells what stands behind it.
func behindElement(items []impl.Item, depth int64) ([]impl.Item, bool) {
	if len(items) == 0 || items[0].Name == "" || items[0].Depth != depth {
		return nil, false
	}
	items = items[1:]
	wasText, ok := false, true
	for len(items) > 0 && items[0].Depth > depth {
		if items[0].Name != "" {
			if items, ok = behindElement(items, depth+1); !ok {
				return nil, false
			}
			wasText = false
			continue
		}
		if wasText || items[0].Depth != depth+1 {
			return nil, false
		}
		items, wasText = items[1:], true
	}
	return items, true
}

// standsAsATree asks by the grammar what TreeFault asks by neighbours.
func standsAsATree(items []impl.Item) bool {
	rest, ok := behindElement(items, 0)
	return ok && len(rest) == 0
}

// itemOf is an item whose fields tell at which place it stands.
func itemOf(depth int64, text bool, place int) impl.Item {
	mark := strconv.Itoa(place)
	if text {
		return impl.Item{Depth: depth, Text: "text " + mark}
	}
	x := impl.Item{Depth: depth, Space: "space " + mark, Name: "n" + mark}
	for i := range place % 4 {
		x.Attrs = append(x.Attrs, impl.Attr{Name: "k" + strconv.Itoa(i), Value: mark})
	}
	return x
}

// eachList tells all lists of 1 to count items of Depths from low to high. It
// tells the same memory again and again.
func eachList(count int, low, high int64, tell func(items []impl.Item)) {
	var grow func(items []impl.Item)
	grow = func(items []impl.Item) {
		if len(items) > 0 {
			tell(items)
		}
		if len(items) == count {
			return
		}
		for depth := low; depth <= high; depth++ {
			grow(append(items, itemOf(depth, false, len(items))))
			grow(append(items, itemOf(depth, true, len(items))))
		}
	}
	grow(make([]impl.Item, 0, count))
}

// someTree is a tree of that many items, the same for the same numbers.
func someTree(from *rand.Rand, count int, deepest int64) []impl.Item {
	items := []impl.Item{itemOf(0, false, 0)}
	for len(items) < count {
		x := itemOf(1+from.Int63n(deepest), from.Intn(3) == 0, len(items))
		if standsAsATree(append(slices.Clone(items), x)) {
			items = append(items, x)
		}
	}
	return items
}

// rowOf is an element with count-1 others in it, side by side.
func rowOf(count int) []impl.Item {
	items := []impl.Item{{Name: "a"}}
	for len(items) < count {
		items = append(items, impl.Item{Depth: 1, Name: "b"})
	}
	return items
}

// chainOf is elements down to that depth, each one in the one ahead of it.
func chainOf(depth int64) []impl.Item {
	var items []impl.Item
	for i := range depth + 1 {
		items = append(items, impl.Item{Depth: i, Name: "a"})
	}
	return items
}

// treesToKnow are trees without a fault.
var treesToKnow = map[string][]impl.Item{
	"one element":        {{Name: "a"}},
	"one with all of it": {{Space: "u", Name: "a", Attrs: attrsOf("b", "1", "xml:lang", "de")}},
	"a text":             {{Name: "a"}, {Depth: 1, Text: "x"}},
	"a text of 60 bytes": {{Name: "a"}, {Depth: 1, Text: strings.Repeat("x", 60)}},
	"texts about an element": {
		{Name: "a"}, {Depth: 1, Text: "x"}, {Depth: 1, Name: "b"}, {Depth: 1, Text: "y"}, {Depth: 1, Name: "c"}},
	"two texts of 60 bytes": {
		{Name: "a"}, {Depth: 1, Text: strings.Repeat("x", 60)}, {Depth: 1, Name: "b"}, {Depth: 1, Text: strings.Repeat("y", 60)}},
	"a text behind a deeper one": {
		{Name: "a"}, {Depth: 1, Name: "b"}, {Depth: 2, Text: "x"}, {Depth: 1, Text: "y"}},
	"texts of one depth, an element between": {
		{Name: "a"}, {Depth: 1, Name: "b"}, {Depth: 2, Text: "x"}, {Depth: 1, Name: "b"}, {Depth: 2, Text: "x"}, {Depth: 1, Text: "x"}},
	"far up again": {
		{Name: "a"}, {Depth: 1, Name: "b"}, {Depth: 2, Name: "c"}, {Depth: 3, Name: "d"}, {Depth: 4, Text: "x"}, {Depth: 1, Name: "b"}},
	"as deep as may be":        chainOf(6),
	"a text as deep as may be": append(chainOf(5), impl.Item{Depth: 6, Text: "x"}),
	"as many as may be":        rowOf(40),
	"as many, and as deep, as may be": append(rowOf(34), []impl.Item{
		{Depth: 1, Name: "a"}, {Depth: 2, Name: "a"}, {Depth: 3, Name: "a"}, {Depth: 4, Name: "a"}, {Depth: 5, Name: "a"}, {Depth: 6, Text: "x"}}...),
}

// eachTree tells trees without a fault: those to know, all small ones, and some
// of any size.
func eachTree(tell func(items []impl.Item)) {
	for _, items := range treesToKnow {
		tell(items)
	}
	eachList(6, 0, 3, func(items []impl.Item) {
		if standsAsATree(items) {
			tell(items)
		}
	})
	from := rand.New(rand.NewSource(4))
	for range 300 {
		tell(someTree(from, 1+from.Intn(40), 1+from.Int63n(6)))
	}
}

// noTrees are lists that are no tree, with their codes.
var noTrees = []choice[[]impl.Item]{
	{"nil", nil, impl.ErrMany},
	{"no items", []impl.Item{}, impl.ErrMany},
	{"41 items", rowOf(41), impl.ErrMany},
	{"41 items with faults", make([]impl.Item, 41), impl.ErrMany},
	{"41 items that stand wrongly", slices.Repeat([]impl.Item{{Name: "a"}}, 41), impl.ErrMany},
	{"very many items", rowOf(1 << 16), impl.ErrMany},
	{"an item with nothing", []impl.Item{{}}, impl.ErrForm},
	{"a text first", []impl.Item{{Text: "x"}}, impl.ErrForm},
	{"a text first, of the Depth 1", []impl.Item{{Depth: 1, Text: "x"}}, impl.ErrForm},
	{"an element of the Depth 1 first", []impl.Item{{Depth: 1, Name: "a"}}, impl.ErrForm},
	{"a tree one too deep", []impl.Item{{Depth: 1, Name: "a"}, {Depth: 2, Name: "b"}}, impl.ErrForm},
	{"two elements of the Depth 0", []impl.Item{{Name: "a"}, {Name: "b"}}, impl.ErrForm},
	{"a text of the Depth 0 behind", []impl.Item{{Name: "a"}, {Text: "x"}}, impl.ErrForm},
	{"an element of the Depth 0 at the end", []impl.Item{{Name: "a"}, {Depth: 1, Name: "b"}, {Depth: 1, Text: "x"}, {Name: "c"}}, impl.ErrForm},
	{"an element deeper by 2", []impl.Item{{Name: "a"}, {Depth: 2, Name: "b"}}, impl.ErrForm},
	{"a text deeper by 2", []impl.Item{{Name: "a"}, {Depth: 2, Text: "x"}}, impl.ErrForm},
	{"deeper by 6", []impl.Item{{Name: "a"}, {Depth: 6, Name: "b"}}, impl.ErrForm},
	{"deeper by 2 than one that is less deep", []impl.Item{{Name: "a"}, {Depth: 1, Name: "b"}, {Depth: 2, Name: "c"}, {Depth: 1, Name: "b"}, {Depth: 3, Name: "d"}}, impl.ErrForm},
	{"an element in a text", []impl.Item{{Name: "a"}, {Depth: 1, Text: "x"}, {Depth: 2, Name: "b"}}, impl.ErrForm},
	{"a text in a text", []impl.Item{{Name: "a"}, {Depth: 1, Text: "x"}, {Depth: 2, Text: "y"}}, impl.ErrForm},
	{"two texts side by side", []impl.Item{{Name: "a"}, {Depth: 1, Text: "x"}, {Depth: 1, Text: "y"}}, impl.ErrForm},
	{"the same text twice", []impl.Item{{Name: "a"}, {Depth: 1, Text: "x"}, {Depth: 1, Text: "x"}}, impl.ErrForm},
	{"two texts of 60 bytes side by side", []impl.Item{{Name: "a"}, {Depth: 1, Text: strings.Repeat("x", 60)}, {Depth: 1, Text: strings.Repeat("y", 60)}}, impl.ErrForm},
	{"two texts of 30 and of 31 bytes", []impl.Item{{Name: "a"}, {Depth: 1, Text: strings.Repeat("x", 30)}, {Depth: 1, Text: strings.Repeat("y", 31)}}, impl.ErrForm},
	{"two texts at the end", []impl.Item{{Name: "a"}, {Depth: 1, Name: "b"}, {Depth: 2, Text: "x"}, {Depth: 2, Text: "y"}}, impl.ErrForm},
	{"an item of the Depth 7", chainOf(7), impl.ErrRange},
	{"an item of the Depth -1", []impl.Item{{Name: "a"}, {Depth: -1, Name: "b"}}, impl.ErrRange},
	{"the greatest Depth behind", []impl.Item{{Name: "a"}, {Depth: math.MaxInt64, Name: "b"}}, impl.ErrRange},
	{"the least Depth behind", []impl.Item{{Name: "a"}, {Depth: math.MinInt64, Name: "b"}}, impl.ErrRange},
	{"a text with a Space", []impl.Item{{Name: "a"}, {Depth: 1, Text: "x", Space: "u"}}, impl.ErrForm},
	{"a text with Attrs", []impl.Item{{Name: "a"}, {Depth: 1, Text: "x", Attrs: attrsOf("a", "1")}}, impl.ErrForm},
	{"a text of no byte", []impl.Item{{Name: "a"}, {Depth: 1}}, impl.ErrForm},
	{"an element with a Text", []impl.Item{{Name: "a", Text: "x"}}, impl.ErrForm},
	{"a text of 61 bytes", []impl.Item{{Name: "a"}, {Depth: 1, Text: strings.Repeat("x", 61)}}, impl.ErrMany},
	{"a name that is none", []impl.Item{{Name: "a b"}}, impl.ErrText},
	{"two Attrs alike", []impl.Item{{Name: "a", Attrs: attrsOf("a", "1", "a", "2")}}, impl.ErrTaken},
	{"a wrong stand, then a Depth", []impl.Item{{Text: "x"}, {Depth: 7, Name: "a"}}, impl.ErrRange},
	{"a wrong stand, then two Attrs alike", []impl.Item{{Name: "a"}, {Name: "a"}, {Depth: 5, Name: "a", Attrs: attrsOf("a", "1", "a", "2")}}, impl.ErrTaken},
	{"a wrong stand, then a name", []impl.Item{{Depth: 1, Text: "x"}, {Depth: 1, Text: "x"}, {Depth: 3, Name: "1"}}, impl.ErrText},
	{"Attrs, then a Depth", []impl.Item{{Name: "a", Attrs: attrsOf("b", "", "a", "")}, {Depth: 7, Name: "a"}}, impl.ErrTaken},
	{"a Depth, then Attrs", []impl.Item{{Depth: 7, Name: "a"}, {Name: "a", Attrs: attrsOf("b", "", "a", "")}}, impl.ErrRange},
	{"a long text, then one that cannot be read", []impl.Item{{Name: "a"}, {Depth: 1, Text: strings.Repeat("x", 61)}, {Depth: 1, Text: "\x00"}}, impl.ErrMany},
}

var noPlaces = []int64{-1, -2, math.MinInt64, -1 << 32}

func TestIsKey(t *testing.T) {
	for name, want := range map[string]bool{
		"a": true, "_": true, "a-b.c": true, "lang": true, "xml": true, "xml.lang": true, "xmlnsa": true, "xmln": true, "XMLNS": true, "xmlns.": true,
		"xml:lang":                      true,
		strings.Repeat("a", 20):         true,
		"xmlns":                         false,
		"xmlns:a":                       false,
		"xmlns:lang":                    false,
		"xml:":                          false,
		"xml:base":                      false,
		"xml:Lang":                      false,
		"XML:lang":                      false,
		"xml:lang ":                     false,
		" xml:lang":                     false,
		"xml:langs":                     false,
		"xml:lan":                       false,
		"xml:lang:xml":                  false,
		"a:b":                           false,
		"x:y":                           false,
		":lang":                         false,
		":":                             false,
		"":                              false,
		"1a":                            false,
		"-":                             false,
		"a b":                           false,
		"caf\xc3\xa9":                   false,
		strings.Repeat("a", 21):         false,
		strings.Repeat("xml:lang", 100): false,
	} {
		if impl.IsKey(name) != want {
			t.Errorf("IsKey(%.30q) is %v", name, !want)
		}
	}
	pieces := []string{"xml", "xmlns", "lang", ":", "a", "1", "-", " "}
	eachRow(pieces, 4, func(name string) {
		want := name == "xml:lang" || name != "xmlns" && impl.IsName(name)
		if impl.IsKey(name) != want {
			t.Errorf("IsKey(%q) is %v", name, !want)
		}
	})
}

func TestItemFaultOfTexts(t *testing.T) {
	texts := append([]choice[string]{{"no byte", "", impl.ErrForm}}, textChoices...)
	spaces := append([]choice[string]{{"no byte", "", impl.OK}}, textChoices...)
	for _, depth := range depthChoices {
		for _, space := range spaces {
			for _, attrs := range attrsChoices {
				for _, text := range texts {
					x := impl.Item{Depth: depth.value, Space: space.value, Attrs: attrs.value, Text: text.value}
					want := firstOf(depth.code, formIf(space.value != "" || len(attrs.value) > 0 || text.value == ""), text.code)
					if got := impl.ItemFault(x); got != want {
						t.Errorf("a text; %s; Space: %s; Attrs: %s; Text: %s: %d, want %d", depth.name, space.name, attrs.name, text.name, got, want)
					}
				}
			}
		}
	}
}

func TestItemFaultOfElements(t *testing.T) {
	spaces := append([]choice[string]{{"no byte", "", impl.OK}}, textChoices...)
	for _, depth := range depthChoices {
		for _, text := range spaces {
			for _, name := range nameChoices {
				for _, space := range spaces {
					for _, attrs := range attrsChoices {
						x := impl.Item{Depth: depth.value, Text: text.value, Name: name.value, Space: space.value, Attrs: attrs.value}
						want := firstOf(depth.code, formIf(text.value != ""), name.code, space.code, attrs.code)
						if got := impl.ItemFault(x); got != want {
							t.Errorf("an element; %s; Text: %s; Name: %s; Space: %s; Attrs: %s: %d, want %d", depth.name, text.name, name.name, space.name, attrs.name, got, want)
						}
					}
				}
			}
		}
	}
}

func TestItemFaultOfEachDepth(t *testing.T) {
	for depth := int64(-300); depth <= 300; depth++ {
		want := int64(impl.ErrRange)
		if depth >= 0 && depth <= 6 {
			want = impl.OK
		}
		for _, x := range []impl.Item{itemOf(depth, false, 3), itemOf(depth, true, 3)} {
			if got := impl.ItemFault(x); got != want {
				t.Errorf("ItemFault(%+v) = %d, want %d", x, got, want)
			}
		}
	}
}

func TestTreeFaultOfListsToKnow(t *testing.T) {
	for name, items := range treesToKnow {
		if got := impl.TreeFault(items); got != impl.OK {
			t.Errorf("%s: %d", name, got)
		}
	}
	for _, x := range noTrees {
		if got := impl.TreeFault(x.value); got != x.code {
			t.Errorf("%s: %d, want %d", x.name, got, x.code)
		}
	}
}

func TestTreeFaultOfEachSmallList(t *testing.T) {
	check := func(items []impl.Item) {
		want := formIf(!standsAsATree(items))
		if got := impl.TreeFault(items); got != want {
			t.Errorf("TreeFault(%+v) = %d, want %d", items, got, want)
		}
	}
	eachList(6, 0, 3, check)
	eachList(3, 0, 6, check)
	eachTree(check)
}

// An item is taken out, put elsewhere, made a text or an element, or set deeper.
func TestTreeFaultOfTreesWithOneItemTurned(t *testing.T) {
	check := func(items []impl.Item) {
		want := formIf(!standsAsATree(items))
		if len(items) < 1 || len(items) > 40 {
			want = impl.ErrMany
		}
		if got := impl.TreeFault(items); got != want {
			t.Errorf("TreeFault(%+v) = %d, want %d", items, got, want)
		}
	}
	from := rand.New(rand.NewSource(5))
	for range 200 {
		items := someTree(from, 1+from.Intn(40), 6)
		for at := range items {
			check(slices.Delete(slices.Clone(items), at, at+1))
			check(slices.Insert(slices.Clone(items), at, items[at]))
			for depth := range int64(7) {
				for _, text := range []bool{false, true} {
					turned := slices.Clone(items)
					turned[at] = itemOf(depth, text, at)
					check(turned)
				}
			}
		}
	}
}

func TestTreeFaultOfSeveralFaults(t *testing.T) {
	faulty := []impl.Item{
		{Depth: 1, Name: "a"},
		{Depth: 1, Text: "x"},
		{Depth: 5, Name: "a"},
		{Depth: 7, Name: "a"},
		{Depth: -1},
		{Depth: 1},
		{Depth: 1, Name: "a", Text: "x"},
		{Depth: 1, Name: "1"},
		{Depth: 1, Name: "a", Space: strings.Repeat("x", 61)},
		{Depth: 1, Name: "a", Space: "\x00"},
		{Depth: 1, Name: "a", Attrs: slices.Repeat(attrsOf("a", ""), 6)},
		{Depth: 1, Name: "a", Attrs: attrsOf("b", "", "a", "")},
		{Depth: 1, Text: strings.Repeat("x", 61)},
		{Depth: 1, Text: "\x00"},
	}
	for _, x := range faulty {
		for _, y := range faulty {
			for _, z := range faulty {
				items := []impl.Item{{Name: "a"}, x, y, z}
				want := firstOf(impl.ItemFault(x), impl.ItemFault(y), impl.ItemFault(z), formIf(!standsAsATree(items)))
				if got := impl.TreeFault(items); got != want {
					t.Errorf("TreeFault(%+v) = %d, want %d", items, got, want)
				}
			}
		}
	}
}

func TestEachNumberOfItems(t *testing.T) {
	for count := range 100 {
		for _, items := range [][]impl.Item{rowOf(count + 1)[:count], make([]impl.Item, count), slices.Repeat([]impl.Item{{Name: "a"}}, count)} {
			if got := impl.TreeFault(items); (count < 1 || count > 40) != (got == impl.ErrMany) {
				t.Errorf("%d items: %d", count, got)
			}
		}
	}
}

// insideOf are the places of what is in the item at a place.
func insideOf(items []impl.Item, at int) []int {
	var places []int
	for i := at + 1; i < len(items) && items[i].Depth > items[at].Depth; i++ {
		places = append(places, i)
	}
	return places
}

func checkKids(t *testing.T, items []impl.Item, at int) {
	t.Helper()
	var want []int64
	for _, i := range insideOf(items, at) {
		if items[i].Depth == items[at].Depth+1 {
			want = append(want, int64(i))
		}
	}
	if got := impl.KidsOf(items, int64(at)); got.Code != impl.OK || !slices.Equal(got.List, want) {
		t.Errorf("KidsOf(%+v, %d) = %+v, want %v", items, at, got, want)
	}
}

func checkText(t *testing.T, items []impl.Item, at int) {
	t.Helper()
	want := impl.TextResult{}
	for _, i := range insideOf(items, at) {
		if items[i].Name != "" {
			want = impl.TextResult{Code: impl.ErrForm}
			break
		}
		want.Text += items[i].Text
	}
	if len(want.Text) > 60 {
		want = impl.TextResult{Code: impl.ErrMany}
	}
	if got := impl.TextIn(items, int64(at)); got != want {
		t.Errorf("TextIn(%+v, %d) = %+v, want %+v", items, at, got, want)
	}
}

func checkSubTree(t *testing.T, items []impl.Item, at int) {
	t.Helper()
	got := impl.SubTree(items, int64(at))
	if items[at].Name == "" {
		if got.Code != impl.ErrForm || len(got.Items) != 0 {
			t.Errorf("SubTree(%+v, %d) = %+v, want ErrForm alone", items, at, got)
		}
		return
	}
	want := slices.Clone(items[at : at+1+len(insideOf(items, at))])
	for i := range want {
		want[i].Depth -= items[at].Depth
	}
	if got.Code != impl.OK || !sameLists(got.Items, want) {
		t.Errorf("SubTree(%+v, %d) = %+v, want %+v", items, at, got, want)
	}
	if fault := impl.TreeFault(got.Items); fault != impl.OK {
		t.Errorf("the TreeFault of SubTree(%+v, %d), %+v, is %d", items, at, got, fault)
	}
}

func checkValues(t *testing.T, items []impl.Item, at int) {
	t.Helper()
	none := impl.TextResult{Code: impl.ErrNone}
	for _, name := range []string{"", "k", "K0", "k9", "k0 ", "xmlns", "name", "Name", items[at].Name, items[at].Space, items[at].Text} {
		if got := impl.ValueOf(items, int64(at), name); got != none {
			t.Errorf("ValueOf(%+v, %d, %q) = %+v, want ErrNone alone", items, at, name, got)
		}
	}
	held := map[string]impl.TextResult{}
	for _, x := range items {
		for _, a := range x.Attrs {
			held[a.Name] = none
		}
	}
	for _, a := range items[at].Attrs {
		held[a.Name] = impl.TextResult{Text: a.Value}
	}
	for name, want := range held {
		if got := impl.ValueOf(items, int64(at), name); got != want {
			t.Errorf("ValueOf(%+v, %d, %q) = %+v, want %+v", items, at, name, got, want)
		}
	}
}

func TestWhatIsInEachItemOfEachTree(t *testing.T) {
	eachTree(func(items []impl.Item) {
		for at := range items {
			checkKids(t, items, at)
			checkText(t, items, at)
			checkSubTree(t, items, at)
			checkValues(t, items, at)
		}
	})
}

func TestWhatIsInAnItem(t *testing.T) {
	items := []impl.Item{
		{Space: "u", Name: "a", Attrs: attrsOf("id", "1", "xml:lang", "")},
		{Depth: 1, Text: "x"},
		{Depth: 1, Space: "v", Name: "b", Attrs: attrsOf("id", "2")},
		{Depth: 2, Name: "d"},
		{Depth: 3, Text: strings.Repeat("\xe2\x82\xac", 20)},
		{Depth: 1, Name: "c"},
	}
	for at, want := range [][]int64{{1, 2, 5}, nil, {3}, {4}, nil, nil} {
		if got := impl.KidsOf(items, int64(at)); got.Code != impl.OK || !slices.Equal(got.List, want) {
			t.Errorf("KidsOf at %d = %+v, want %v", at, got, want)
		}
	}
	form := impl.TextResult{Code: impl.ErrForm}
	for at, want := range []impl.TextResult{form, {}, form, {Text: strings.Repeat("\xe2\x82\xac", 20)}, {}, {}} {
		if got := impl.TextIn(items, int64(at)); got != want {
			t.Errorf("TextIn at %d = %+v, want %+v", at, got, want)
		}
	}
	want := []impl.Item{{Space: "v", Name: "b", Attrs: attrsOf("id", "2")}, {Depth: 1, Name: "d"}, {Depth: 2, Text: strings.Repeat("\xe2\x82\xac", 20)}}
	if got := impl.SubTree(items, 2); got.Code != impl.OK || !sameLists(got.Items, want) {
		t.Errorf("SubTree at 2 = %+v, want %+v", got, want)
	}
	none := impl.TextResult{Code: impl.ErrNone}
	for at, want := range []impl.TextResult{{Text: "1"}, none, {Text: "2"}, none, none, none} {
		if got := impl.ValueOf(items, int64(at), "id"); got != want {
			t.Errorf("the id at %d = %+v, want %+v", at, got, want)
		}
	}
	if got := impl.ValueOf(items, 0, "xml:lang"); got != (impl.TextResult{}) {
		t.Errorf("an empty Value = %+v", got)
	}
}

func TestTextsOfEachSizeInAnItem(t *testing.T) {
	for size := range 130 {
		text := strings.Repeat("x", size)
		alone := []impl.Item{{Name: "a"}, {Depth: 1, Text: text}}
		if size == 0 {
			alone = alone[:1]
		}
		want := impl.TextResult{Text: text}
		if size > 60 {
			want = impl.TextResult{Code: impl.ErrMany}
		}
		if got := impl.TextIn(alone, 0); got != want {
			t.Errorf("a text of %d bytes: %+v, want %+v", size, got, want)
		}
	}
	for first := 1; first <= 60; first++ {
		for _, second := range []int{1, 29, 30, 31, 60} {
			x, y := impl.Item{Depth: 1, Text: strings.Repeat("x", first)}, impl.Item{Depth: 1, Text: strings.Repeat("y", second)}
			for _, items := range [][]impl.Item{{{Name: "a"}, x, y}, {{Name: "a"}, x, {Depth: 1, Name: "b"}, y}, {{Name: "a"}, {Depth: 1, Name: "b"}, x, {Depth: 1, Name: "b"}}} {
				if got := impl.TextIn(items, 0); got != (impl.TextResult{Code: impl.ErrForm}) {
					t.Errorf("TextIn(%+v, 0) = %+v, want ErrForm alone", items, got)
				}
			}
		}
	}
}

// checkAnswers checks what is told when all functions that take a place have
// to tell this code.
func checkAnswers(t *testing.T, name string, items []impl.Item, at int64, code int64) {
	t.Helper()
	if got := impl.KidsOf(items, at); got.Code != code || len(got.List) != 0 {
		t.Errorf("%s: KidsOf at %d = %+v, want the code %d alone", name, at, got, code)
	}
	if got := impl.TextIn(items, at); got != (impl.TextResult{Code: code}) {
		t.Errorf("%s: TextIn at %d = %+v, want the code %d alone", name, at, got, code)
	}
	if got := impl.SubTree(items, at); got.Code != code || len(got.Items) != 0 {
		t.Errorf("%s: SubTree at %d = %+v, want the code %d alone", name, at, got, code)
	}
	for _, key := range []string{"a", "id", "xml:lang", ""} {
		if got := impl.ValueOf(items, at, key); got != (impl.TextResult{Code: code}) {
			t.Errorf("%s: ValueOf %q at %d = %+v, want the code %d alone", name, key, at, got, code)
		}
	}
}

func TestPlacesWithNoItem(t *testing.T) {
	eachTree(func(items []impl.Item) {
		count := int64(len(items))
		for _, at := range append([]int64{count, count + 1, count + 1<<32, 1 << 32, math.MaxInt64}, noPlaces...) {
			checkAnswers(t, "a tree", items, at, impl.ErrNone)
		}
		if got := impl.KidsOf(items, count-1); got.Code != impl.OK || len(got.List) != 0 {
			t.Errorf("KidsOf(%+v, %d) = %+v, want none", items, count-1, got)
		}
	})
}

func TestFaultsOfTreesAreAskedAheadOfPlaces(t *testing.T) {
	for _, x := range noTrees {
		for _, at := range append([]int64{0, 1, 2, 3, 40, 41, math.MaxInt64}, noPlaces...) {
			checkAnswers(t, x.name, x.value, at, x.code)
		}
	}
}

func checkJoin(t *testing.T, items, kid []impl.Item) {
	t.Helper()
	got := impl.JoinTree(items, kid)
	deepest := slices.ContainsFunc(kid, func(x impl.Item) bool { return x.Depth == 6 })
	if deepest || len(items)+len(kid) > 40 {
		if got.Code != impl.ErrMany || len(got.Items) != 0 {
			t.Errorf("JoinTree(%+v, %+v) = %+v, want ErrMany alone", items, kid, got)
		}
		return
	}
	want := slices.Concat(items, kid)
	for i := len(items); i < len(want); i++ {
		want[i].Depth++
	}
	if got.Code != impl.OK || !sameLists(got.Items, want) {
		t.Fatalf("JoinTree(%+v, %+v) = %+v, want %+v", items, kid, got, want)
	}
	if fault := impl.TreeFault(got.Items); fault != impl.OK {
		t.Errorf("the TreeFault of JoinTree(%+v, %+v) is %d", items, kid, fault)
	}
	if back := impl.SubTree(got.Items, int64(len(items))); back.Code != impl.OK || !sameLists(back.Items, kid) {
		t.Errorf("what is joined to %+v comes back as %+v, want %+v", items, back, kid)
	}
	kids := append(impl.KidsOf(items, 0).List, int64(len(items)))
	if again := impl.KidsOf(got.Items, 0); !slices.Equal(again.List, kids) {
		t.Errorf("KidsOf what %+v and %+v are joined to = %+v, want %v", items, kid, again, kids)
	}
}

func TestJoinTreeHasBoth(t *testing.T) {
	for _, items := range treesToKnow {
		for _, kid := range treesToKnow {
			checkJoin(t, items, kid)
		}
	}
	var small [][]impl.Item
	eachList(4, 0, 3, func(items []impl.Item) {
		if standsAsATree(items) {
			small = append(small, copyOf(items))
		}
	})
	for _, items := range small {
		for _, kid := range small {
			checkJoin(t, items, kid)
		}
	}
	from := rand.New(rand.NewSource(6))
	for range 2000 {
		items, kid := someTree(from, 1+from.Intn(40), 1+from.Int63n(6)), someTree(from, 1+from.Intn(40), 1+from.Int63n(6))
		checkJoin(t, items, kid)
		checkJoin(t, items, items)
	}
}

func TestJoinTreeAtItsBounds(t *testing.T) {
	for _, x := range []struct {
		name  string
		items []impl.Item
		kid   []impl.Item
		code  int64
	}{
		{"two alone", rowOf(1), rowOf(1), impl.OK},
		{"39 and 1", rowOf(39), rowOf(1), impl.OK},
		{"1 and 39", rowOf(1), rowOf(39), impl.OK},
		{"20 and 20", rowOf(20), rowOf(20), impl.OK},
		{"40 and 1", rowOf(40), rowOf(1), impl.ErrMany},
		{"1 and 40", rowOf(1), rowOf(40), impl.ErrMany},
		{"20 and 21", rowOf(20), rowOf(21), impl.ErrMany},
		{"40 and 40", rowOf(40), rowOf(40), impl.ErrMany},
		{"a kid of the Depth 5", rowOf(1), chainOf(5), impl.OK},
		{"a kid of the Depth 6", rowOf(1), chainOf(6), impl.ErrMany},
		{"a kid with a text of the Depth 6", rowOf(1), append(chainOf(5), impl.Item{Depth: 6, Text: "x"}), impl.ErrMany},
		{"a kid of the Depth 6 in between", rowOf(1), append(chainOf(6), impl.Item{Depth: 1, Name: "a"}), impl.ErrMany},
		{"items of the Depth 6", chainOf(6), rowOf(1), impl.OK},
		{"both of the Depth 6", chainOf(6), chainOf(6), impl.ErrMany},
		{"items of the Depth 6, a kid of the Depth 5", chainOf(6), chainOf(5), impl.OK},
		{"behind a text", []impl.Item{{Name: "a"}, {Depth: 1, Text: "x"}}, rowOf(1), impl.OK},
		{"behind a deep text", append(chainOf(5), impl.Item{Depth: 6, Text: "x"}), rowOf(1), impl.OK},
	} {
		got := impl.JoinTree(x.items, x.kid)
		if got.Code != x.code || x.code != impl.OK && len(got.Items) != 0 || x.code == impl.OK && len(got.Items) != len(x.items)+len(x.kid) {
			t.Errorf("%s: %+v, want the code %d", x.name, got, x.code)
		}
		checkJoin(t, x.items, x.kid)
	}
}

func TestJoinTreeOfFaults(t *testing.T) {
	good := [][]impl.Item{rowOf(1), rowOf(40), chainOf(6), chainOf(5)}
	check := func(name string, items, kid []impl.Item, code int64) {
		if got := impl.JoinTree(items, kid); got.Code != code || len(got.Items) != 0 {
			t.Errorf("%s: %+v, want the code %d alone", name, got, code)
		}
	}
	for _, x := range noTrees {
		for _, y := range good {
			check(x.name+", joined to", x.value, y, x.code)
			check(x.name+", joined", y, x.value, x.code)
		}
		for _, y := range noTrees {
			check(x.name+"; "+y.name, x.value, y.value, x.code)
		}
	}
}

// A tree in whose first item no text stands is put together again out of that
// item and of what is in it.
func TestTreesArePutTogetherAgain(t *testing.T) {
	eachTree(func(items []impl.Item) {
		kids := impl.KidsOf(items, 0).List
		if slices.ContainsFunc(kids, func(at int64) bool { return items[at].Name == "" }) {
			return
		}
		whole := impl.TreeResult{Items: items[:1]}
		for _, at := range kids {
			whole = impl.JoinTree(whole.Items, impl.SubTree(items, at).Items)
		}
		if whole.Code != impl.OK || !impl.SameTrees(whole.Items, items) {
			t.Errorf("%+v, put together again, is %+v", items, whole)
		}
	})
}

// What is in what is in an item is what is in that item at the place behind.
func TestTreesInTrees(t *testing.T) {
	from := rand.New(rand.NewSource(7))
	for range 200 {
		items := someTree(from, 1+from.Intn(40), 6)
		for at := range items {
			sub := impl.SubTree(items, int64(at)).Items
			for i := range sub {
				a, b := impl.SubTree(sub, int64(i)), impl.SubTree(items, int64(at+i))
				if a.Code != b.Code || !sameLists(a.Items, b.Items) {
					t.Errorf("%+v: at %d of what is at %d: %+v, want %+v", items, i, at, a, b)
				}
			}
		}
	}
}

func TestSameTrees(t *testing.T) {
	same := func(want bool, a, b []impl.Item) {
		t.Helper()
		if impl.SameTrees(a, b) != want || impl.SameTrees(b, a) != want {
			t.Errorf("SameTrees(%+v, %+v) is not %v both ways", a, b, want)
		}
	}
	var all [][]impl.Item
	for _, items := range treesToKnow {
		all = append(all, items)
	}
	for _, x := range noTrees {
		all = append(all, x.value)
	}
	for i, a := range all {
		same(true, a, copyOf(a))
		for j, b := range all {
			if i < j && len(a)+len(b) < 200 {
				same(sameLists(a, b), a, b)
			}
		}
	}
	same(true, nil, []impl.Item{})
	same(true, []impl.Item{{Name: "a", Attrs: nil}}, []impl.Item{{Name: "a", Attrs: []impl.Attr{}}})
	same(false, nil, []impl.Item{{}})
	same(false, rowOf(3), rowOf(4))
	same(false, rowOf(41), rowOf(42))
	same(false, []impl.Item{{Name: "a"}, {Name: "b"}}, []impl.Item{{Name: "b"}, {Name: "a"}})
}

// Whatever differs in an item, be it one that has a fault, is seen.
func TestSameTreesOfItemsThatDiffer(t *testing.T) {
	var different []impl.Item
	for _, name := range []string{"", "a", "A"} {
		for _, text := range []string{"", "a", "b"} {
			for _, space := range []string{"", "a", "b"} {
				for _, depth := range []int64{0, 1, -1, 1 << 32} {
					for _, attrs := range [][]impl.Attr{nil, attrsOf("", ""), attrsOf("a", ""), attrsOf("", "a"), attrsOf("a", "1", "b", "2"), attrsOf("b", "2", "a", "1"), attrsOf("a", "2", "b", "1"), slices.Repeat(attrsOf("a", ""), 6), slices.Repeat(attrsOf("a", ""), 7)} {
						different = append(different, impl.Item{Depth: depth, Text: text, Space: space, Name: name, Attrs: attrs})
					}
				}
			}
		}
	}
	for i, x := range different {
		for j, y := range different {
			if got := impl.SameTrees([]impl.Item{x}, []impl.Item{y}); got != (i == j) {
				t.Errorf("SameTrees of %+v and %+v is %v", x, y, got)
			}
		}
		if impl.SameTrees([]impl.Item{{Name: "a"}, x}, []impl.Item{{Name: "a"}, different[(i+1)%len(different)]}) {
			t.Errorf("a last item that differs from %+v is not seen", x)
		}
	}
}

// fillItems writes over all memory of items: what stands in their Attrs, and
// themselves.
func fillItems(items []impl.Item, with string) {
	for i := range items {
		fill(items[i].Attrs, impl.Attr{Name: with, Value: with})
	}
	fill(items, impl.Item{Depth: -1, Text: with, Space: with, Name: with})
}

// Each answer is kept, written over, and looked at again when others have been
// asked for; and no two lists of one answer show what is written into one.
func TestAnswersOfChapter4AreNewMemory(t *testing.T) {
	var lists [][]int64
	var trees [][]impl.Item
	for name, items := range treesToKnow {
		before := copyOf(items)
		for at := range items {
			kids := impl.KidsOf(items, int64(at)).List
			fill(kids, -1)
			lists = append(lists, kids)
			sub := impl.SubTree(items, int64(at)).Items
			fillItems(sub, "?")
			trees = append(trees, sub)
			checkKids(t, items, at)
			checkSubTree(t, items, at)
		}
		for _, kid := range treesToKnow {
			joined := impl.JoinTree(items, kid).Items
			fillItems(joined, "?")
			trees = append(trees, joined)
			checkJoin(t, items, kid)
		}
		if !sameLists(items, before) {
			t.Errorf("%s: what is written into an answer shows in its argument", name)
		}
	}
	checkFilled(t, lists, -1)
	for _, list := range trees {
		for _, x := range list[:cap(list)] {
			if x.Depth != -1 || x.Text+x.Space+x.Name != "???" || x.Attrs != nil {
				t.Errorf("a later call wrote %+v into an answer", x)
			}
		}
	}
}

func TestListsOfOneAnswerShareNothing(t *testing.T) {
	items := []impl.Item{{Name: "a", Attrs: attrsOf("a", "1", "b", "2")}, {Depth: 1, Name: "b", Attrs: attrsOf("a", "1", "b", "2")}}
	items[1].Attrs = items[0].Attrs
	for _, got := range []impl.TreeResult{impl.JoinTree(items, items), impl.SubTree(items, 0)} {
		for i := range got.Items {
			fill(got.Items[i].Attrs, impl.Attr{Name: "?"})
			for j := i + 1; j < len(got.Items); j++ {
				if !slices.Equal(got.Items[j].Attrs, attrsOf("a", "1", "b", "2")) {
					t.Errorf("the Attrs at %d and at %d share memory", i, j)
				}
			}
		}
	}
	if !slices.Equal(items[0].Attrs, attrsOf("a", "1", "b", "2")) {
		t.Error("an answer shares the Attrs of its argument")
	}
}

// Answers stay as they are when what they were told of turns.
func TestAnswersOfChapter4DoNotTurnWithArguments(t *testing.T) {
	for name, given := range treesToKnow {
		items, kid := copyOf(given), rowOf(1)
		sub, joined := impl.SubTree(items, 0), impl.JoinTree(kid, items)
		subBefore, joinedBefore := copyOf(sub.Items), copyOf(joined.Items)
		fillItems(items, "?")
		fillItems(kid, "?")
		if !sameLists(sub.Items, subBefore) || !sameLists(joined.Items, joinedBefore) {
			t.Errorf("%s: an answer turns with its argument", name)
		}
	}
}

// withRoom is items with more memory behind its end and behind those of its
// Attrs.
func withRoom(items []impl.Item) []impl.Item {
	list := make([]impl.Item, 0, len(items)+50)
	for _, x := range items {
		attrs := append(make([]impl.Attr, 0, len(x.Attrs)+8), x.Attrs...)
		fill(attrs[len(attrs):], impl.Attr{Name: "room"})
		x.Attrs = attrs
		list = append(list, x)
	}
	fill(list[len(list):], impl.Item{Depth: 1, Name: "room"})
	return list
}

func allOf(items []impl.Item) []impl.Item {
	whole := copyOf(items[:cap(items)])
	for i := range whole {
		whole[i].Attrs = slices.Clone(items[:cap(items)][i].Attrs[:cap(items[:cap(items)][i].Attrs)])
	}
	return whole
}

func TestChapter4ChangesNoArgument(t *testing.T) {
	var all [][]impl.Item
	for _, items := range treesToKnow {
		all = append(all, withRoom(items))
	}
	for _, x := range noTrees {
		all = append(all, withRoom(x.value[:min(len(x.value), 60)]))
	}
	kid := withRoom([]impl.Item{{Name: "k", Attrs: attrsOf("a", "1")}, {Depth: 1, Text: "x"}})
	kidBefore := allOf(kid)
	for _, items := range all {
		before := allOf(items)
		for at := int64(-1); at <= int64(len(items)); at++ {
			impl.KidsOf(items, at)
			impl.TextIn(items, at)
			impl.SubTree(items, at)
			impl.ValueOf(items, at, "a")
		}
		for _, x := range items {
			impl.ItemFault(x)
		}
		impl.TreeFault(items)
		impl.JoinTree(items, kid)
		impl.JoinTree(kid, items)
		impl.JoinTree(items, items)
		impl.SameTrees(items, kid)
		impl.SameTrees(items, items)
		if !sameLists(allOf(items), before) || !sameLists(allOf(kid), kidBefore) {
			t.Errorf("%+v has been changed", items)
		}
	}
}

// A fault ahead of a call must not show in the call behind it, nor must calls
// that run at the same time, also of the same items, show in one another.
func TestAnswersOfChapter4HangOnArgumentsAlone(t *testing.T) {
	items := []impl.Item{{Name: "a", Attrs: attrsOf("id", "1")}, {Depth: 1, Name: "b"}, {Depth: 2, Text: "x"}, {Depth: 1, Name: "c"}}
	var all sync.WaitGroup
	for range 8 {
		all.Go(func() {
			for range 200 {
				if impl.KidsOf(nil, 0).Code != impl.ErrMany || impl.SubTree(items, 2).Code != impl.ErrForm || impl.JoinTree(items, nil).Code != impl.ErrMany || impl.ValueOf(items, 9, "id").Code != impl.ErrNone || impl.TextIn(items, 0).Code != impl.ErrForm || impl.ItemFault(impl.Item{}) != impl.ErrForm {
					t.Error("a fault is told otherwise at a later call")
				}
				if !slices.Equal(impl.KidsOf(items, 0).List, []int64{1, 3}) || impl.TextIn(items, 1).Text != "x" || impl.ValueOf(items, 0, "id").Text != "1" || len(impl.SubTree(items, 1).Items) != 2 || len(impl.JoinTree(items, items).Items) != 8 || impl.TreeFault(items) != impl.OK || !impl.SameTrees(items, items) {
					t.Error("an answer is another one at a later call")
				}
			}
		})
	}
	all.Wait()
}

// itemsIn makes items of any bytes, three an item.
func itemsIn(data []byte) []impl.Item {
	texts := append([]choice[string]{{"no byte", "", impl.OK}}, textChoices...)
	var items []impl.Item
	for ; len(data) >= 3; data = data[3:] {
		x := itemOf(int64(data[0]%9)-1, data[0] >= 128, len(items))
		if data[1] >= 240 {
			x.Text = texts[int(data[1])%len(texts)].value
		}
		if data[2] >= 250 {
			x.Space = texts[int(data[2])%len(texts)].value
		} else if data[2] >= 240 {
			x.Attrs = attrsChoices[int(data[2]-240)].value
		}
		items = append(items, x)
	}
	return items
}

func FuzzTrees(f *testing.F) {
	for _, seed := range []string{"", "\x01\x00\x00", "\x01\x00\x00\x02\x00\x00", "\x01\x00\x00\x82\x00\x00\x02\x00\x00", "\x01\x00\xf5\x02\x00\x00\x83\xf3\x00"} {
		f.Add([]byte(seed), []byte("\x01\x00\x00\x02\x00\x00"), int64(0))
	}
	f.Fuzz(func(t *testing.T, data, other []byte, at int64) {
		items, kid := itemsIn(data), itemsIn(other)
		want := int64(impl.ErrMany)
		if len(items) >= 1 && len(items) <= 40 {
			want = impl.OK
			for _, x := range items {
				want = firstOf(want, impl.ItemFault(x))
			}
			want = firstOf(want, formIf(!standsAsATree(items)))
		}
		if got := impl.TreeFault(items); got != want {
			t.Fatalf("TreeFault(%+v) = %d, want %d", items, got, want)
		}
		if want != impl.OK {
			checkAnswers(t, "no tree", items, at, want)
			return
		}
		for i := range items {
			checkKids(t, items, i)
			checkText(t, items, i)
			checkSubTree(t, items, i)
		}
		if at < 0 || at >= int64(len(items)) {
			checkAnswers(t, "a tree", items, at, impl.ErrNone)
		}
		if impl.TreeFault(kid) == impl.OK {
			checkJoin(t, items, kid)
		}
	})
}
