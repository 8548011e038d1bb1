package tests

import (
	"math"
	"math/rand"
	"regexp"
	"slices"
	"strconv"
	"strings"
	"sync"
	"testing"

	"loop.example/g00795/impl"
)

// The words stand at the places of their constants, as the document numbers
// these.
var kindWordsToKnow = []string{"", "unavailable", "subscribe", "subscribed", "unsubscribe", "unsubscribed", "probe"}
var showWordsToKnow = []string{"", "away", "chat", "dnd", "xa"}

var oneFormOfNumbers = regexp.MustCompile(`^(?:0|-?[1-9][0-9]{0,2})$`)

func numberOtherwise(word string) impl.IntResult {
	if !oneFormOfNumbers.MatchString(word) {
		return impl.IntResult{Code: impl.ErrText}
	}
	digits, below := strings.CutPrefix(word, "-")
	n := int64(0)
	for _, digit := range digits {
		n = 10*n + int64(digit-'0')
	}
	if below {
		n = -n
	}
	return impl.IntResult{Value: n}
}

// standAsTrees asks by the grammar what MoreFault asks by neighbours.
func standAsTrees(more []impl.Item) bool {
	for len(more) > 0 {
		space := more[0].Space
		rest, ok := behindElement(more, 0)
		if !ok || space == "jabber:client" {
			return false
		}
		more = rest
	}
	return true
}

// moreFaultOtherwise rests on the ItemFault, which has tests of its own.
func moreFaultOtherwise(more []impl.Item) int64 {
	if len(more) > 20 {
		return impl.ErrMany
	}
	for _, x := range more {
		if fault := impl.ItemFault(x); fault != impl.OK {
			return fault
		}
		if x.Depth > 5 {
			return impl.ErrRange
		}
	}
	return formIf(!standAsTrees(more))
}

func rangeIf(n, low, high int64) int64 {
	if n < low || n > high {
		return impl.ErrRange
	}
	return impl.OK
}

// saysTooMuch tells whether a presence that is not available says what only
// others say.
func saysTooMuch(p impl.Presence) bool {
	return p.Kind != 0 && (p.Show != 0 || p.Priority != 0) || p.Kind > 1 && p.Status != ""
}

func presenceFaultOtherwise(p impl.Presence) int64 {
	return firstOf(
		rangeIf(p.Kind, 0, 6), rangeIf(p.Show, 0, 4), rangeIf(p.Priority, -128, 127),
		impl.TextFault(p.From), impl.TextFault(p.To), impl.TextFault(p.Status),
		formIf(saysTooMuch(p)), moreFaultOtherwise(p.More))
}

// treeOtherwise is the tree of a presence that has no fault.
func treeOtherwise(p impl.Presence) []impl.Item {
	first := impl.Item{Space: "jabber:client", Name: "presence"}
	for _, pair := range [][]string{{"from", p.From}, {"to", p.To}, {"type", kindWordsToKnow[p.Kind]}} {
		if pair[1] != "" {
			first.Attrs = append(first.Attrs, attrsOf(pair...)...)
		}
	}
	items := []impl.Item{first}
	add := func(name string, text string, is bool) {
		if is {
			items = append(items, impl.Item{Depth: 1, Space: "jabber:client", Name: name}, impl.Item{Depth: 2, Text: text})
		}
	}
	add("show", showWordsToKnow[p.Show], p.Show != 0)
	add("status", p.Status, p.Status != "")
	add("priority", strconv.Itoa(int(p.Priority)), p.Priority != 0)
	for _, x := range p.More {
		x.Depth++
		items = append(items, x)
	}
	return items
}

// piecesInside are what is in the first one of items, cut at the Depth 1.
func piecesInside(items []impl.Item) [][]impl.Item {
	var pieces [][]impl.Item
	for _, x := range items[1:] {
		if x.Depth == 1 {
			pieces = append(pieces, nil)
		}
		last := len(pieces) - 1
		pieces[last] = append(pieces[last], x)
	}
	return pieces
}

// wordIn sets n to the place of word, and tells whether it is a word there.
func wordIn(words []string, word string, n *int64) bool {
	for place, other := range words {
		if place > 0 && other == word {
			*n = int64(place)
			return true
		}
	}
	return false
}

func firstOtherwise(p *impl.Presence, first impl.Item) bool {
	ok := first.Name == "presence" && first.Space == "jabber:client"
	for _, a := range first.Attrs {
		switch a.Name {
		case "from":
			p.From = a.Value
		case "to":
			p.To = a.Value
		case "type":
			ok = ok && wordIn(kindWordsToKnow, a.Value, &p.Kind)
		default:
			ok = false
		}
	}
	return ok
}

// partOtherwise reads show, status or priority: an element, and perhaps a text.
func partOtherwise(p *impl.Presence, part []impl.Item) bool {
	text := ""
	for _, x := range part[1:] {
		if x.Name != "" {
			return false
		}
		text += x.Text
	}
	if len(part[0].Attrs) > 0 {
		return false
	}
	switch part[0].Name {
	case "show":
		return wordIn(showWordsToKnow, text, &p.Show)
	case "status":
		p.Status = text
		return true
	case "priority":
		read := numberOtherwise(text)
		p.Priority = read.Value
		return read.Code == impl.OK
	}
	return false
}

// presenceOtherwise reads a tree piece by piece, by the Depths alone. It rests on
// the TreeFault, which has tests of its own.
func presenceOtherwise(items []impl.Item) impl.PresenceResult {
	if fault := impl.TreeFault(items); fault != impl.OK {
		return impl.PresenceResult{Code: fault}
	}
	var p impl.Presence
	ok := firstOtherwise(&p, items[0])
	met := map[string]int{}
	for _, piece := range piecesInside(items) {
		first := piece[0]
		if first.Name != "" && first.Space != "jabber:client" {
			for _, x := range piece {
				x.Depth--
				p.More = append(p.More, x)
			}
			continue
		}
		met[first.Name]++
		ok = ok && met[first.Name] == 1 && partOtherwise(&p, piece)
	}
	if !ok {
		return impl.PresenceResult{Code: impl.ErrForm}
	}
	if fault := presenceFaultOtherwise(p); fault != impl.OK {
		return impl.PresenceResult{Code: fault}
	}
	return impl.PresenceResult{Presence: p}
}

// asOne tells whether two presences are the same, without asking SamePresences.
func asOne(a, b impl.Presence) bool {
	moreA, moreB := a.More, b.More
	a.More, b.More = nil, nil
	return sameFields(a, b) && sameLists(moreA, moreB)
}

// sameFields compares all but More.
func sameFields(a, b impl.Presence) bool {
	return [3]int64{a.Kind, a.Show, a.Priority} == [3]int64{b.Kind, b.Show, b.Priority} &&
		[3]string{a.From, a.To, a.Status} == [3]string{b.From, b.To, b.Status}
}

func checkNumber(t *testing.T, word string) {
	t.Helper()
	want := numberOtherwise(word)
	got := impl.NumberOf(word)
	if got != want {
		t.Errorf("NumberOf(%.30q) = %+v, want %+v", word, got, want)
	}
	if back := impl.NumberText(got.Value); got.Code == impl.OK && (back != impl.TextResult{Text: word}) {
		t.Errorf("NumberText(%d) = %+v, want %q", got.Value, back, word)
	}
}

// checkPresence is the promise of a presence without a fault: its tree is a tree,
// and it is read back from it.
func checkPresence(t *testing.T, p impl.Presence) {
	t.Helper()
	if fault := impl.PresenceFault(p); fault != impl.OK {
		t.Fatalf("PresenceFault(%+v) = %d", p, fault)
	}
	tree := impl.TreeOf(p)
	if want := treeOtherwise(p); tree.Code != impl.OK || !sameLists(tree.Items, want) {
		t.Fatalf("TreeOf(%+v) = %+v, want %+v", p, tree, want)
	}
	if fault := impl.TreeFault(tree.Items); fault != impl.OK {
		t.Errorf("the tree %+v has the fault %d", tree.Items, fault)
	}
	if got := impl.PresenceOf(tree.Items); got.Code != impl.OK || !asOne(got.Presence, p) || !impl.SamePresences(got.Presence, p) {
		t.Errorf("PresenceOf(%+v) = %+v, want %+v", tree.Items, got, p)
	}
}

func checkPresenceFault(t *testing.T, name string, p impl.Presence, code int64) {
	t.Helper()
	if got := impl.PresenceFault(p); got != code {
		t.Errorf("%s: PresenceFault(%+v) = %d, want %d", name, p, got, code)
	}
	if got := impl.TreeOf(p); got.Code != code || code != impl.OK && len(got.Items) != 0 {
		t.Errorf("%s: TreeOf(%+v) = %+v, want the code %d alone", name, p, got, code)
	}
}

// checkPresenceOf is the promise of any items: what is read is read as the other
// reader does, and is read back from the tree that it has itself.
func checkPresenceOf(t *testing.T, items []impl.Item) impl.PresenceResult {
	t.Helper()
	want := presenceOtherwise(items)
	if got := impl.PresenceOf(items); got.Code != want.Code || !asOne(got.Presence, want.Presence) {
		t.Errorf("PresenceOf(%+v) = %+v, want %+v", items, got, want)
	}
	if want.Code == impl.OK {
		checkPresence(t, want.Presence)
	}
	return want
}

func markedItems(t *testing.T, marks string) []impl.Item {
	t.Helper()
	read := impl.ParseXml(marks)
	if read.Code != impl.OK {
		t.Fatalf("%s is no tree: %d", marks, read.Code)
	}
	return read.Items
}

// inPresence is a marked presence with that in its tag, and that inside.
func inPresence(settings string, inside string) string {
	return "<presence xmlns='jabber:client'" + settings + ">" + inside + "</presence>"
}

// rowOfTrees is that many elements of the Depth 0, one behind the other.
func rowOfTrees(count int) []impl.Item {
	return slices.Repeat([]impl.Item{{Space: "u", Name: "x"}}, count)
}

// moresToKnow are lists of trees without a fault.
var moresToKnow = []choice[[]impl.Item]{
	{"nil", nil, impl.OK},
	{"no items", []impl.Item{}, impl.OK},
	{"an element", []impl.Item{{Space: "u", Name: "x"}}, impl.OK},
	{"an element without a Space", []impl.Item{{Name: "x"}}, impl.OK},
	{"a text in an element", []impl.Item{{Space: "u", Name: "x"}, {Depth: 1, Text: "1"}}, impl.OK},
	{"two elements", []impl.Item{{Name: "x"}, {Name: "y"}}, impl.OK},
	{"the same element twice", rowOfTrees(2), impl.OK},
	{"several trees", []impl.Item{
		{Space: "u", Name: "x", Attrs: attrsOf("a", "1")}, {Depth: 1, Text: "1"}, {Depth: 1, Space: "v", Name: "y"}, {Depth: 2, Text: "2"}, {Space: "w", Name: "z"}, {Name: "x"}, {Depth: 1, Text: "3"}}, impl.OK},
	{"20 trees", rowOfTrees(20), impl.OK},
	{"a tree of 20 items", rowOf(20), impl.OK},
	{"as deep as may be", chainOf(5), impl.OK},
	{"a text as deep as may be", append(chainOf(4), impl.Item{Depth: 5, Text: "x"}), impl.OK},
	{"two trees as deep as may be", append(chainOf(5), chainOf(5)...), impl.OK},
	{"as many Attrs as may be", []impl.Item{{Space: "u", Name: "x", Attrs: attrsOf("a", "1", "b", "", "c", "3", "d", "4", "xml:lang", "de")}}, impl.OK},
	{"the ClientSpace further in", []impl.Item{{Space: "u", Name: "x"}, {Depth: 1, Space: "jabber:client", Name: "show"}, {Depth: 2, Text: "away"}}, impl.OK},
	{"the parts of a presence in another Space", []impl.Item{
		{Space: "u", Name: "show"}, {Depth: 1, Text: "?"}, {Name: "status", Attrs: attrsOf("a", "1")}, {Space: "Jabber:client", Name: "priority"}, {Space: "jabber:client ", Name: "priority"}, {Space: "u", Name: "presence"}}, impl.OK},
}

// noMores are lists that are no trees, with their codes.
var noMores = []choice[[]impl.Item]{
	{"21 trees", rowOfTrees(21), impl.ErrMany},
	{"a tree of 21 items", rowOf(21), impl.ErrMany},
	{"21 items with faults", make([]impl.Item, 21), impl.ErrMany},
	{"21 items that are too deep", slices.Repeat([]impl.Item{{Depth: 6, Name: "x"}}, 21), impl.ErrMany},
	{"very many items", rowOfTrees(1 << 16), impl.ErrMany},

	{"an item with nothing", []impl.Item{{}}, impl.ErrForm},
	{"20 items with nothing", make([]impl.Item, 20), impl.ErrForm},
	{"an item of the Depth 7", append(chainOf(5), impl.Item{Depth: 7, Name: "x"}), impl.ErrRange},
	{"an item of the Depth -1", []impl.Item{{Depth: -1, Name: "x"}}, impl.ErrRange},
	{"the least Depth", []impl.Item{{Name: "x"}, {Depth: math.MinInt64, Name: "x"}}, impl.ErrRange},
	{"the greatest Depth", []impl.Item{{Name: "x"}, {Depth: math.MaxInt64, Name: "x"}}, impl.ErrRange},
	{"a name that is none", []impl.Item{{Name: "x y"}}, impl.ErrText},
	{"an element with a Text", []impl.Item{{Name: "x", Text: "y"}}, impl.ErrForm},
	{"a Space of 61 bytes", []impl.Item{{Name: "x", Space: strings.Repeat("u", 61)}}, impl.ErrMany},
	{"a Space with a byte 0", []impl.Item{{Name: "x", Space: "\x00"}}, impl.ErrText},
	{"six Attrs", []impl.Item{{Name: "x", Attrs: attrsOf("a", "", "b", "", "c", "", "d", "", "e", "", "f", "")}}, impl.ErrMany},
	{"two Attrs alike", []impl.Item{{Name: "x", Attrs: attrsOf("a", "", "a", "")}}, impl.ErrTaken},
	{"a text of no byte", []impl.Item{{Name: "x"}, {Depth: 1}}, impl.ErrForm},
	{"a text of 61 bytes", []impl.Item{{Name: "x"}, {Depth: 1, Text: strings.Repeat("x", 61)}}, impl.ErrMany},
	{"a text with a byte 0 at the end", append(rowOf(19), impl.Item{Depth: 1, Text: "\x00"}), impl.ErrText},

	{"an element one too deep", chainOf(6), impl.ErrRange},
	{"a text one too deep", append(chainOf(5), impl.Item{Depth: 6, Text: "x"}), impl.ErrRange},
	{"one too deep alone", []impl.Item{{Depth: 6, Name: "x"}}, impl.ErrRange},
	{"one too deep, with a name that is none", append(chainOf(5), impl.Item{Depth: 6, Name: "1"}), impl.ErrText},
	{"one too deep, then a name that is none", append(chainOf(6), impl.Item{Name: "1"}), impl.ErrRange},
	{"a name that is none, then one too deep", []impl.Item{{Name: "1"}, {Depth: 6, Name: "x"}}, impl.ErrText},
	{"two Attrs alike, then one too deep", []impl.Item{{Name: "x", Attrs: attrsOf("a", "", "a", "")}, {Depth: 6, Name: "x"}}, impl.ErrTaken},

	{"an element of the Depth 1 first", []impl.Item{{Depth: 1, Name: "x"}}, impl.ErrForm},
	{"an element of the Depth 5 first", []impl.Item{{Depth: 5, Name: "x"}}, impl.ErrForm},
	{"a tree one too deep", []impl.Item{{Depth: 1, Name: "x"}, {Depth: 2, Name: "y"}, {Name: "x"}}, impl.ErrForm},
	{"a text of the Depth 0", []impl.Item{{Text: "x"}}, impl.ErrForm},
	{"a text of the Depth 1 first", []impl.Item{{Depth: 1, Text: "x"}, {Name: "x"}}, impl.ErrForm},
	{"a text of the Depth 0 behind", []impl.Item{{Name: "x"}, {Text: "x"}}, impl.ErrForm},
	{"a text of the Depth 0 between", []impl.Item{{Name: "x"}, {Depth: 1, Name: "y"}, {Text: "x"}, {Name: "x"}}, impl.ErrForm},
	{"the ClientSpace", []impl.Item{{Space: "jabber:client", Name: "x"}}, impl.ErrForm},
	{"the ClientSpace behind", []impl.Item{{Name: "x"}, {Depth: 1, Text: "x"}, {Space: "jabber:client", Name: "x"}}, impl.ErrForm},
	{"a part of a presence", []impl.Item{{Space: "jabber:client", Name: "show"}, {Depth: 1, Text: "away"}}, impl.ErrForm},
	{"an element deeper by 2", []impl.Item{{Name: "x"}, {Depth: 2, Name: "y"}}, impl.ErrForm},
	{"a text deeper by 2", []impl.Item{{Name: "x"}, {Depth: 2, Text: "x"}}, impl.ErrForm},
	{"deeper by 2 in the second tree", []impl.Item{{Name: "x"}, {Depth: 1, Name: "y"}, {Depth: 2, Name: "z"}, {Name: "x"}, {Depth: 2, Name: "z"}}, impl.ErrForm},
	{"an element in a text", []impl.Item{{Name: "x"}, {Depth: 1, Text: "x"}, {Depth: 2, Name: "y"}}, impl.ErrForm},
	{"a text in a text", []impl.Item{{Name: "x"}, {Depth: 1, Text: "x"}, {Depth: 2, Text: "y"}}, impl.ErrForm},
	{"two texts side by side", []impl.Item{{Name: "x"}, {Depth: 1, Text: "x"}, {Depth: 1, Text: "y"}}, impl.ErrForm},
	{"two texts side by side at the end", append(chainOf(4), impl.Item{Depth: 5, Text: "x"}, impl.Item{Depth: 5, Text: "x"}), impl.ErrForm},

	{"a wrong stand, then one too deep", []impl.Item{{Text: "x"}, {Depth: 6, Name: "x"}}, impl.ErrRange},
	{"a wrong stand, then two Attrs alike", []impl.Item{{Space: "jabber:client", Name: "x"}, {Depth: 3, Name: "x", Attrs: attrsOf("a", "", "a", "")}}, impl.ErrTaken},
	{"a wrong stand, then a text of 61 bytes", []impl.Item{{Depth: 1, Name: "x"}, {Depth: 2, Text: strings.Repeat("x", 61)}}, impl.ErrMany},
	{"a wrong stand, then a name that is none", []impl.Item{{Name: "x"}, {Depth: 2, Name: "y"}, {Depth: 1, Name: "1"}}, impl.ErrText},
}

// presencesToKnow are presences, and what the one text of their trees is.
var presencesToKnow = []struct {
	name     string
	presence impl.Presence
	marks    string
}{
	{"nothing", impl.Presence{}, `<presence xmlns="jabber:client"/>`},
	{"a From", impl.Presence{From: "a@b"}, `<presence xmlns="jabber:client" from="a@b"/>`},
	{"a To", impl.Presence{To: "c@d"}, `<presence xmlns="jabber:client" to="c@d"/>`},
	{"a From and a To", impl.Presence{From: "a@b", To: "c@d"}, `<presence xmlns="jabber:client" from="a@b" to="c@d"/>`},
	{"unavailable", impl.Presence{Kind: 1}, `<presence xmlns="jabber:client" type="unavailable"/>`},
	{"unavailable, with a Status", impl.Presence{Kind: 1, Status: "gone"}, `<presence xmlns="jabber:client" type="unavailable"><status>gone</status></presence>`},
	{"subscribe", impl.Presence{Kind: 2, To: "c@d"}, `<presence xmlns="jabber:client" to="c@d" type="subscribe"/>`},
	{"subscribed", impl.Presence{Kind: 3, From: "a@b"}, `<presence xmlns="jabber:client" from="a@b" type="subscribed"/>`},
	{"unsubscribe", impl.Presence{Kind: 4}, `<presence xmlns="jabber:client" type="unsubscribe"/>`},
	{"unsubscribed", impl.Presence{Kind: 5}, `<presence xmlns="jabber:client" type="unsubscribed"/>`},
	{"probe, with More", impl.Presence{Kind: 6, From: "a", To: "b", More: []impl.Item{{Name: "x"}}}, `<presence xmlns="jabber:client" from="a" to="b" type="probe"><x xmlns=""/></presence>`},
	{"away", impl.Presence{Show: 1}, `<presence xmlns="jabber:client"><show>away</show></presence>`},
	{"chat", impl.Presence{Show: 2}, `<presence xmlns="jabber:client"><show>chat</show></presence>`},
	{"dnd", impl.Presence{Show: 3}, `<presence xmlns="jabber:client"><show>dnd</show></presence>`},
	{"xa", impl.Presence{Show: 4}, `<presence xmlns="jabber:client"><show>xa</show></presence>`},
	{"a Status", impl.Presence{Status: "<busy>"}, `<presence xmlns="jabber:client"><status>&lt;busy&gt;</status></presence>`},
	{"a blank as Status", impl.Presence{Status: " "}, `<presence xmlns="jabber:client"><status> </status></presence>`},
	{"a Status that is a number", impl.Presence{Status: "0"}, `<presence xmlns="jabber:client"><status>0</status></presence>`},
	{"the Priority 1", impl.Presence{Priority: 1}, `<presence xmlns="jabber:client"><priority>1</priority></presence>`},
	{"the Priority 127", impl.Presence{Priority: 127}, `<presence xmlns="jabber:client"><priority>127</priority></presence>`},
	{"the Priority -128", impl.Presence{Priority: -128}, `<presence xmlns="jabber:client"><priority>-128</priority></presence>`},
	{"the Priority 100", impl.Presence{Priority: 100}, `<presence xmlns="jabber:client"><priority>100</priority></presence>`},
	{"More", impl.Presence{More: []impl.Item{{Space: "u", Name: "x", Attrs: attrsOf("a", "1")}, {Depth: 1, Text: "t"}, {Name: "y"}, {Depth: 1, Space: "jabber:client", Name: "show"}}},
		`<presence xmlns="jabber:client"><x xmlns="u" a="1">t</x><y xmlns=""><show xmlns="jabber:client"/></y></presence>`},
	{"the same everywhere", impl.Presence{From: "x", To: "x", Status: "x", More: []impl.Item{{Space: "x", Name: "x", Attrs: attrsOf("x", "x")}, {Depth: 1, Text: "x"}}},
		`<presence xmlns="jabber:client" from="x" to="x"><status>x</status><x xmlns="x" x="x">x</x></presence>`},
	{"all of it", impl.Presence{From: "a@b", To: "c@d", Show: 4, Status: "s", Priority: -5, More: []impl.Item{{Space: "u", Name: "x"}, {Depth: 1, Text: "1"}}},
		`<presence xmlns="jabber:client" from="a@b" to="c@d"><show>xa</show><status>s</status><priority>-5</priority><x xmlns="u">1</x></presence>`},
}

// readOtherwiseWritten are trees that tell a presence, though its own is another
// one.
var readOtherwiseWritten = []struct {
	name     string
	marks    string
	presence impl.Presence
}{
	{"an empty from", inPresence(" from=''", ""), impl.Presence{}},
	{"an empty to", inPresence(" to=''", ""), impl.Presence{}},
	{"an empty from and an empty to", inPresence(" from='' to='' type='probe'", ""), impl.Presence{Kind: 6}},
	{"nothing in the status", inPresence("", "<status/>"), impl.Presence{}},
	{"nothing in the status of a probe", inPresence(" type='probe'", "<status/>"), impl.Presence{Kind: 6}},
	{"the priority 0", inPresence("", "<priority>0</priority>"), impl.Presence{}},
	{"the priority 0 of one that is not there", inPresence(" type='unavailable'", "<priority>0</priority>"), impl.Presence{Kind: 1}},
	{"the parts the other way round", inPresence("", "<priority>7</priority><status>s</status><show>dnd</show>"), impl.Presence{Show: 3, Status: "s", Priority: 7}},
	{"More ahead", inPresence("", "<x xmlns='u'>1</x><show>dnd</show>"), impl.Presence{Show: 3, More: []impl.Item{{Space: "u", Name: "x"}, {Depth: 1, Text: "1"}}}},
	{"More between", inPresence("", "<x xmlns='u'>1</x><priority>7</priority><y xmlns='v'><z/></y><show>xa</show><x xmlns='u'/>"),
		impl.Presence{Show: 4, Priority: 7, More: []impl.Item{{Space: "u", Name: "x"}, {Depth: 1, Text: "1"}, {Space: "v", Name: "y"}, {Depth: 1, Space: "v", Name: "z"}, {Space: "u", Name: "x"}}}},
	{"parts in another Space, also twice", inPresence("", "<show xmlns='u'/><show>xa</show><show xmlns='u' a='1'><b/></show><priority xmlns=''>05</priority>"),
		impl.Presence{Show: 4, More: []impl.Item{{Space: "u", Name: "show"}, {Space: "u", Name: "show", Attrs: attrsOf("a", "1")}, {Depth: 1, Space: "u", Name: "b"}, {Name: "priority"}, {Depth: 1, Text: "05"}}}},
	{"parts further in", inPresence("", "<x xmlns=''><show xmlns='jabber:client'/><show xmlns='jabber:client'/></x><show>xa</show>"),
		impl.Presence{Show: 4, More: []impl.Item{{Name: "x"}, {Depth: 1, Space: "jabber:client", Name: "show"}, {Depth: 1, Space: "jabber:client", Name: "show"}}}},
	{"an element like the first one in another Space", inPresence("", "<presence xmlns='u'/>"), impl.Presence{More: []impl.Item{{Space: "u", Name: "presence"}}}},
	{"prefixes", "<p:presence xmlns:p='jabber:client' to='b'><x/><p:show>away</p:show></p:presence>", impl.Presence{To: "b", Show: 1, More: []impl.Item{{Name: "x"}}}},
	{"20 items in More", inPresence("", "<status/>"+strings.Repeat("<x xmlns='u'>1</x>", 10)), impl.Presence{More: slices.Repeat([]impl.Item{{Space: "u", Name: "x"}, {Depth: 1, Text: "1"}}, 10)}},
	{"the greatest Depth", inPresence("", "<a xmlns=''><a><a><a><a><a/></a></a></a></a></a>"), impl.Presence{More: chainOf(5)}},
}

// noPresences are trees that tell no presence, with their codes.
var noPresences = []choice[string]{
	{"no Space", "<presence/>", impl.ErrForm},
	{"another Space", "<presence xmlns='jabber:server'/>", impl.ErrForm},
	{"another name", "<message xmlns='jabber:client'/>", impl.ErrForm},
	{"a great letter", "<Presence xmlns='jabber:client'/>", impl.ErrForm},
	{"another Attr", inPresence(" x='1'", ""), impl.ErrForm},
	{"another Attr, empty", inPresence(" id=''", ""), impl.ErrForm},
	{"another Attr ahead of all three", inPresence(" a='1' from='a' to='b' type='probe'", ""), impl.ErrForm},
	{"another Attr between", inPresence(" from='a' id='1' to='b'", ""), impl.ErrForm},
	{"another Attr behind", inPresence(" from='a' to='b' type='probe' xml:lang='de'", ""), impl.ErrForm},
	{"two other Attrs", inPresence(" from='a' to='b' type='probe' u='1' v='2'", ""), impl.ErrForm},
	{"a part as an Attr", inPresence(" show='away'", ""), impl.ErrForm},
	{"a status as an Attr", inPresence(" status='x'", ""), impl.ErrForm},
	{"an empty type", inPresence(" type=''", ""), impl.ErrForm},
	{"the type available", inPresence(" type='available'", ""), impl.ErrForm},
	{"the type error", inPresence(" type='error'", ""), impl.ErrForm},
	{"a type with a blank", inPresence(" type='probe '", ""), impl.ErrForm},
	{"a type in great letters", inPresence(" type='Probe'", ""), impl.ErrForm},
	{"a type that is a number", inPresence(" type='1'", ""), impl.ErrForm},
	{"a type that a word begins with", inPresence(" type='subscrib'", ""), impl.ErrForm},
	{"a type that is a show", inPresence(" type='away'", ""), impl.ErrForm},

	{"a blank inside", inPresence("", " "), impl.ErrForm},
	{"a text inside", inPresence("", "away"), impl.ErrForm},
	{"a text behind a part", inPresence("", "<show>away</show>x"), impl.ErrForm},
	{"a text behind More", inPresence("", "<x xmlns='u'/>x"), impl.ErrForm},
	{"another element", inPresence("", "<x/>"), impl.ErrForm},
	{"another element behind all parts", inPresence("", "<show>away</show><status>s</status><priority>1</priority><x/>"), impl.ErrForm},
	{"a presence in it", inPresence("", "<presence/>"), impl.ErrForm},
	{"an Attr as a part", inPresence("", "<from>a</from>"), impl.ErrForm},
	{"a type as a part", inPresence("", "<type>probe</type>"), impl.ErrForm},
	{"a part in great letters", inPresence("", "<Show>away</Show>"), impl.ErrForm},

	{"a show twice", inPresence("", "<show>away</show><show>away</show>"), impl.ErrForm},
	{"two shows", inPresence("", "<show>away</show><status/><x xmlns='u'/><show>xa</show>"), impl.ErrForm},
	{"a status twice", inPresence("", "<status>x</status><status>x</status>"), impl.ErrForm},
	{"a status with nothing twice", inPresence("", "<status/><status/>"), impl.ErrForm},
	{"a status with nothing, then one", inPresence("", "<status/><status>x</status>"), impl.ErrForm},
	{"a priority twice", inPresence("", "<priority>1</priority><priority>1</priority>"), impl.ErrForm},
	{"the priority 0 twice", inPresence("", "<priority>0</priority><priority>0</priority>"), impl.ErrForm},
	{"a show three times", inPresence("", strings.Repeat("<show>xa</show>", 3)), impl.ErrForm},

	{"a show with an Attr", inPresence("", "<show a='1'>away</show>"), impl.ErrForm},
	{"a status with an Attr", inPresence("", "<status xml:lang='de'>x</status>"), impl.ErrForm},
	{"a priority with an empty Attr", inPresence("", "<priority a=''>1</priority>"), impl.ErrForm},
	{"an element in a show", inPresence("", "<show>away<x/></show>"), impl.ErrForm},
	{"an element of another Space in a show", inPresence("", "<show><x xmlns='u'/>away</show>"), impl.ErrForm},
	{"an element in a status", inPresence("", "<status><x/></status>"), impl.ErrForm},
	{"an element of another Space in a status", inPresence("", "<status><x xmlns='u'/></status>"), impl.ErrForm},
	{"an element with a text in a status", inPresence("", "<status><b>x</b></status>"), impl.ErrForm},
	{"an element in a priority", inPresence("", "<priority>1<x xmlns='u'/></priority>"), impl.ErrForm},

	{"nothing in a show", inPresence("", "<show/>"), impl.ErrForm},
	{"a blank in a show", inPresence("", "<show> </show>"), impl.ErrForm},
	{"a show with a blank", inPresence("", "<show>away </show>"), impl.ErrForm},
	{"a show in great letters", inPresence("", "<show>Away</show>"), impl.ErrForm},
	{"a show that is none", inPresence("", "<show>online</show>"), impl.ErrForm},
	{"a show that is a number", inPresence("", "<show>1</show>"), impl.ErrForm},
	{"a show that is a kind", inPresence("", "<show>probe</show>"), impl.ErrForm},
	{"nothing in a priority", inPresence("", "<priority/>"), impl.ErrForm},
	{"a priority with a nought ahead", inPresence("", "<priority>05</priority>"), impl.ErrForm},
	{"minus nought", inPresence("", "<priority>-0</priority>"), impl.ErrForm},
	{"two noughts", inPresence("", "<priority>00</priority>"), impl.ErrForm},
	{"a priority with a plus", inPresence("", "<priority>+1</priority>"), impl.ErrForm},
	{"a priority with a blank", inPresence("", "<priority> 1</priority>"), impl.ErrForm},
	{"the priority 1000", inPresence("", "<priority>1000</priority>"), impl.ErrForm},
	{"a priority that is a word", inPresence("", "<priority>high</priority>"), impl.ErrForm},

	{"the priority 128", inPresence("", "<priority>128</priority>"), impl.ErrRange},
	{"the priority -129", inPresence("", "<priority>-129</priority>"), impl.ErrRange},
	{"the priority 999", inPresence("", "<priority>999</priority>"), impl.ErrRange},
	{"the priority -999", inPresence("", "<priority>-999</priority>"), impl.ErrRange},
	{"the show of one that is not there", inPresence(" type='unavailable'", "<show>away</show>"), impl.ErrForm},
	{"the priority of one that is not there", inPresence(" type='unavailable'", "<priority>1</priority>"), impl.ErrForm},
	{"the status of a probe", inPresence(" type='probe'", "<status>x</status>"), impl.ErrForm},
	{"the show of a probe", inPresence(" type='probe'", "<show>xa</show>"), impl.ErrForm},
	{"the priority of a subscribe", inPresence(" type='subscribe'", "<priority>-1</priority>"), impl.ErrForm},
	{"21 items in More", inPresence("", strings.Repeat("<x xmlns='u'/>", 21)), impl.ErrMany},
	{"a tree of 21 items in More", inPresence("", "<x xmlns='u'>"+strings.Repeat("<x/>", 20)+"</x>"), impl.ErrMany},
	{"as many as may be", inPresence("", strings.Repeat("<x xmlns='u'/>", 39)), impl.ErrMany},

	{"another name, and the priority 128", "<message xmlns='jabber:client'><priority>128</priority></message>", impl.ErrForm},
	{"another Attr, and 21 items", inPresence(" x=''", strings.Repeat("<x xmlns='u'/>", 21)), impl.ErrForm},
	{"the priority 128, then a show that is none", inPresence("", "<priority>128</priority><show/>"), impl.ErrForm},
	{"the priority 128, then another one", inPresence("", "<priority>128</priority><priority>1</priority>"), impl.ErrForm},
	{"21 items, then a text", inPresence("", strings.Repeat("<x xmlns='u'/>", 21)+"x"), impl.ErrForm},
	{"the priority 128 of a probe", inPresence(" type='probe'", "<priority>128</priority>"), impl.ErrRange},
	{"the priority 128, and 21 items", inPresence("", strings.Repeat("<x xmlns='u'/>", 21)+"<priority>128</priority>"), impl.ErrRange},
	{"the status of a probe, and 21 items", inPresence(" type='probe'", strings.Repeat("<x xmlns='u'/>", 21)+"<status>x</status>"), impl.ErrForm},
}

func TestKindWordAndShowWord(t *testing.T) {
	check := func(n int64) {
		t.Helper()
		for _, x := range []struct {
			name  string
			got   impl.TextResult
			words []string
		}{{"KindWord", impl.KindWord(n), kindWordsToKnow}, {"ShowWord", impl.ShowWord(n), showWordsToKnow}} {
			want := impl.TextResult{Code: impl.ErrRange}
			if n >= 0 && n < int64(len(x.words)) {
				want = impl.TextResult{Text: x.words[n]}
			}
			if x.got != want {
				t.Errorf("%s(%d) = %+v, want %+v", x.name, n, x.got, want)
			}
		}
	}
	for n := int64(-300); n <= 300; n++ {
		check(n)
		check(n + 1<<32)
		check(n - 1<<32)
	}
	for n := range int64(10) {
		check(math.MinInt64 + n)
		check(math.MaxInt64 - n)
	}
}

func TestConstantsOfChapter7(t *testing.T) {
	kinds := []int64{impl.KindAvailable, impl.KindUnavailable, impl.KindSubscribe, impl.KindSubscribed, impl.KindUnsubscribe, impl.KindUnsubscribed, impl.KindProbe}
	shows := []int64{impl.ShowNone, impl.ShowAway, impl.ShowChat, impl.ShowDnd, impl.ShowXa}
	if !slices.Equal(kinds, []int64{0, 1, 2, 3, 4, 5, 6}) || !slices.Equal(shows, []int64{0, 1, 2, 3, 4}) {
		t.Errorf("the kinds are %d, the shows %d", kinds, shows)
	}
	if impl.ClientSpace != "jabber:client" || impl.MaxMore != 20 {
		t.Error("ClientSpace or MaxMore is another one")
	}
}

func TestNumbersAreReadBackFromTheirTexts(t *testing.T) {
	for n, text := range map[int64]string{0: "0", 1: "1", -1: "-1", 9: "9", 10: "10", -10: "-10", 99: "99", 100: "100", 127: "127", -128: "-128", 999: "999", -999: "-999"} {
		if got := impl.NumberText(n); (got != impl.TextResult{Text: text}) {
			t.Errorf("NumberText(%d) = %+v, want %q", n, got, text)
		}
	}
	met := map[string]bool{}
	for n := int64(-999); n <= 999; n++ {
		text := impl.NumberText(n)
		if text.Code != impl.OK || met[text.Text] {
			t.Errorf("NumberText(%d) = %+v", n, text)
		}
		met[text.Text] = true
		if got := impl.NumberOf(text.Text); (got != impl.IntResult{Value: n}) {
			t.Errorf("NumberOf(%q) = %+v, want %d", text.Text, got, n)
		}
		checkNumber(t, text.Text)
	}
}

func TestNumberTextOutOfItsBounds(t *testing.T) {
	check := func(n int64) {
		t.Helper()
		if got := impl.NumberText(n); (got != impl.TextResult{Code: impl.ErrRange}) {
			t.Errorf("NumberText(%d) = %+v, want ErrRange alone", n, got)
		}
		checkNumber(t, strconv.FormatInt(n, 10))
	}
	for n := int64(1000); n <= 20000; n++ {
		check(n)
		check(-n)
	}
	for n := int64(-1000); n <= 1000; n++ {
		check(1<<32 + n)
		check(-1<<32 + n)
		check(1<<16 + n)
	}
	check(math.MinInt64)
	check(math.MinInt64 + 1)
	check(math.MaxInt64)
}

func TestWordsThatAreNoNumber(t *testing.T) {
	for _, word := range []string{
		"", "-", "-0", "00", "000", "05", "-05", "005", "+1", "+0", "+", "1000", "-1000", "1000000", " 1", "1 ", " ", "1\n", "\n1", "\t1", "1\x00", "\x00", "--1", "1-", "1-1", "- 1", "-+1",
		"1_0", "_1", "0x1", "0b1", "0o7", "1e2", "1.", "1.0", ".5", "a", "1a", "a1", "NaN", "inf", "\xd9\xa1", "\xef\xbc\x91", "\xe2\x88\x921", "1\xff", "\xff",
		"9223372036854775807", "9223372036854775808", "-9223372036854775808", "18446744073709551616", "18446744073709551617", "4294967297", strings.Repeat("0", 100) + "1", strings.Repeat("9", 5000), strings.Repeat("0", 1<<16),
	} {
		if got := impl.NumberOf(word); (got != impl.IntResult{Code: impl.ErrText}) {
			t.Errorf("NumberOf(%.30q) = %+v, want ErrText alone", word, got)
		}
		checkNumber(t, word)
	}
	eachRow([]string{"0", "1", "5", "9", "-", "+", " ", ".", "_", "x", "\n", "\x00"}, 5, func(word string) {
		checkNumber(t, word)
	})
	for b := range 256 {
		sign := string([]byte{byte(b)})
		for _, word := range []string{sign, sign + "1", "1" + sign, "-" + sign, sign + "12", "1" + sign + "2", "12" + sign, "-12" + sign, "12" + sign + "3"} {
			checkNumber(t, word)
		}
	}
}

func TestMoreFaultOfListsToKnow(t *testing.T) {
	for _, x := range slices.Concat(moresToKnow, noMores) {
		if got := impl.MoreFault(x.value); got != x.code {
			t.Errorf("%s: MoreFault is %d, want %d", x.name, got, x.code)
		}
		if got := moreFaultOtherwise(x.value); got != x.code {
			t.Errorf("%s: the other one tells %d, want %d", x.name, got, x.code)
		}
		checkPresenceFault(t, x.name, impl.Presence{More: x.value}, x.code)
		checkPresenceFault(t, x.name, impl.Presence{Kind: 6, More: x.value}, x.code)
	}
}

func TestMoreFaultOfEachSmallList(t *testing.T) {
	check := func(more []impl.Item) {
		if got, want := impl.MoreFault(more), moreFaultOtherwise(more); got != want {
			t.Errorf("MoreFault(%+v) = %d, want %d", more, got, want)
		}
	}
	eachList(6, 0, 3, check)
	eachList(3, 0, 6, check)
	eachList(4, 0, 2, func(items []impl.Item) {
		more := slices.Clone(items)
		for way := range 1 << len(items) {
			for i := range more {
				more[i] = items[i]
				if way>>i%2 == 1 && more[i].Name != "" {
					more[i].Space = impl.ClientSpace
				}
			}
			check(more)
		}
	})
}

func TestMoreFaultOfEachItem(t *testing.T) {
	spaces := append([]choice[string]{{"no byte", "", impl.OK}}, textChoices...)
	names := append([]choice[string]{{"no byte", "", impl.OK}}, nameChoices...)
	for _, depth := range append([]choice[int64]{{"Depth 5", 5, impl.OK}}, depthChoices...) {
		for _, text := range spaces {
			for _, name := range names {
				for _, space := range spaces {
					x := impl.Item{Depth: depth.value, Text: text.value, Name: name.value, Space: space.value}
					for _, more := range [][]impl.Item{{x}, append(chainOf(depth.value%8-1), x), {{Name: "1"}, x}, {x, {Depth: 6, Name: "1"}}, {{Depth: 6, Name: "a"}, x}, {{Text: "x"}, x}} {
						if got, want := impl.MoreFault(more), moreFaultOtherwise(more); got != want {
							t.Errorf("MoreFault(%+v) = %d, want %d", more, got, want)
						}
					}
				}
			}
		}
	}
}

func TestMoreFaultOfEachNumberOfItems(t *testing.T) {
	for count := range 50 {
		want := int64(impl.OK)
		if count > 20 {
			want = impl.ErrMany
		}
		for _, more := range [][]impl.Item{rowOfTrees(count), rowOf(max(count, 1))} {
			if got := impl.MoreFault(more); got != want {
				t.Errorf("MoreFault of %d items is %d, want %d", count, got, want)
			}
		}
	}
}

var kindChoices = []choice[int64]{
	{"available", 0, impl.OK}, {"unavailable", 1, impl.OK}, {"subscribe", 2, impl.OK}, {"subscribed", 3, impl.OK}, {"unsubscribe", 4, impl.OK}, {"unsubscribed", 5, impl.OK}, {"probe", 6, impl.OK},
	{"the Kind 7", 7, impl.ErrRange}, {"the Kind -1", -1, impl.ErrRange}, {"the greatest Kind", math.MaxInt64, impl.ErrRange}, {"the Kind 4294967296", 1 << 32, impl.ErrRange},
}

var showChoices = []choice[int64]{
	{"no Show", 0, impl.OK}, {"away", 1, impl.OK}, {"chat", 2, impl.OK}, {"dnd", 3, impl.OK}, {"xa", 4, impl.OK},
	{"the Show 5", 5, impl.ErrRange}, {"the Show -1", -1, impl.ErrRange}, {"the least Show", math.MinInt64, impl.ErrRange},
}

var priorityChoices = []choice[int64]{
	{"the Priority 0", 0, impl.OK}, {"the Priority 1", 1, impl.OK}, {"the Priority -128", -128, impl.OK}, {"the Priority 127", 127, impl.OK},
	{"the Priority 128", 128, impl.ErrRange}, {"the Priority -129", -129, impl.ErrRange}, {"the Priority 4294967296", 1 << 32, impl.ErrRange}, {"the least Priority", math.MinInt64, impl.ErrRange},
}

// fewTexts are texts by their TextFault, so few that all rows of them can be
// asked.
var fewTexts = []choice[string]{{"no byte", "", impl.OK}, {"a byte", "x", impl.OK}, {"61 bytes", strings.Repeat("x", 61), impl.ErrMany}, {"a byte 0", "\x00", impl.ErrText}}

var fewMores = []choice[[]impl.Item]{
	{"none", nil, impl.OK}, {"a tree", []impl.Item{{Space: "u", Name: "x"}, {Depth: 1, Text: "1"}}, impl.OK},
	{"21 trees", rowOfTrees(21), impl.ErrMany}, {"one too deep", chainOf(6), impl.ErrRange}, {"a name that is none", []impl.Item{{Name: "1"}}, impl.ErrText}, {"the ClientSpace", []impl.Item{{Space: "jabber:client", Name: "x"}}, impl.ErrForm},
}

func eachRowOfTexts(tell func(from, to, status choice[string])) {
	for _, from := range fewTexts {
		for _, to := range fewTexts {
			for _, status := range fewTexts {
				tell(from, to, status)
			}
		}
	}
}

func TestPresenceFaultOfAllFields(t *testing.T) {
	eachRowOfTexts(func(from, to, status choice[string]) {
		for _, kind := range kindChoices {
			for _, show := range showChoices {
				for _, priority := range priorityChoices {
					for _, more := range fewMores {
						p := impl.Presence{Kind: kind.value, From: from.value, To: to.value, Show: show.value, Status: status.value, Priority: priority.value, More: more.value}
						want := firstOf(kind.code, show.code, priority.code, from.code, to.code, status.code, formIf(saysTooMuch(p)), more.code)
						if got := impl.PresenceFault(p); got != want {
							t.Errorf("%s; From: %s; To: %s; %s; Status: %s; %s; More: %s: %d, want %d", kind.name, from.name, to.name, show.name, status.name, priority.name, more.name, got, want)
						}
					}
				}
			}
		}
	})
}

func TestPresenceFaultOfEachField(t *testing.T) {
	texts := append([]choice[string]{{"no byte", "", impl.OK}}, textChoices...)
	for _, x := range texts {
		checkPresenceFault(t, "From: "+x.name, impl.Presence{From: x.value}, x.code)
		checkPresenceFault(t, "To: "+x.name, impl.Presence{To: x.value}, x.code)
		checkPresenceFault(t, "Status: "+x.name, impl.Presence{Status: x.value}, x.code)
	}
	for n := int64(-1100); n <= 1100; n++ {
		checkPresenceFault(t, "a Kind", impl.Presence{Kind: n}, rangeIf(n, 0, 6))
		checkPresenceFault(t, "a Show", impl.Presence{Show: n}, rangeIf(n, 0, 4))
		checkPresenceFault(t, "a Priority", impl.Presence{Priority: n}, rangeIf(n, -128, 127))
	}
	for _, n := range []int64{math.MinInt64, math.MaxInt64, 1 << 32, 1<<32 + 1, -1 << 32} {
		checkPresenceFault(t, "a Kind", impl.Presence{Kind: n}, impl.ErrRange)
		checkPresenceFault(t, "a Show", impl.Presence{Show: n}, impl.ErrRange)
		checkPresenceFault(t, "a Priority", impl.Presence{Priority: n}, impl.ErrRange)
	}
}

func TestWhatEachKindCanSay(t *testing.T) {
	for kind := range int64(7) {
		plain := kind == impl.KindAvailable
		silent := !plain && kind != impl.KindUnavailable
		checkPresenceFault(t, "all texts but the Status", impl.Presence{Kind: kind, From: "a", To: "b", More: rowOfTrees(20)}, impl.OK)
		for show := int64(1); show <= 4; show++ {
			checkPresenceFault(t, "a Show", impl.Presence{Kind: kind, Show: show}, formIf(!plain))
		}
		for _, priority := range []int64{-128, -1, 1, 127} {
			checkPresenceFault(t, "a Priority", impl.Presence{Kind: kind, Priority: priority}, formIf(!plain))
		}
		checkPresenceFault(t, "a Status", impl.Presence{Kind: kind, Status: "x"}, formIf(silent))
	}
}

// Faults of a presence are told by TreeOf, and nothing else is.
func TestTreeOfFaults(t *testing.T) {
	for _, kind := range kindChoices {
		for _, show := range showChoices {
			for _, priority := range priorityChoices {
				for _, more := range fewMores {
					p := impl.Presence{Kind: kind.value, Show: show.value, Priority: priority.value, From: "a", More: more.value}
					checkPresenceFault(t, "a presence", p, presenceFaultOtherwise(p))
				}
			}
		}
	}
}

func TestPresencesToKnow(t *testing.T) {
	for _, x := range presencesToKnow {
		checkPresence(t, x.presence)
		items := markedItems(t, x.marks)
		if got := impl.TreeOf(x.presence); got.Code != impl.OK || !sameLists(got.Items, items) || impl.PrintXml(got.Items).Text != x.marks {
			t.Errorf("%s: TreeOf tells %+v, want %s", x.name, got, x.marks)
		}
		if got := checkPresenceOf(t, items); got.Code != impl.OK || !asOne(got.Presence, x.presence) {
			t.Errorf("%s: the other reader tells %+v, want %+v", x.name, got, x.presence)
		}
	}
}

func TestTreesOfOnePresence(t *testing.T) {
	for _, x := range readOtherwiseWritten {
		items := markedItems(t, x.marks)
		if got := impl.PresenceOf(items); got.Code != impl.OK || !asOne(got.Presence, x.presence) {
			t.Errorf("%s: PresenceOf tells %+v, want %+v", x.name, got, x.presence)
		}
		checkPresenceOf(t, items)
		checkPresence(t, x.presence)
	}
}

func TestTreesThatTellNoPresence(t *testing.T) {
	for _, x := range noPresences {
		items := markedItems(t, x.value)
		if got := impl.PresenceOf(items); got.Code != x.code || !asOne(got.Presence, impl.Presence{}) {
			t.Errorf("%s: PresenceOf tells %+v, want the code %d alone", x.name, got, x.code)
		}
		checkPresenceOf(t, items)
	}
}

// The fault of a tree is told, whatever the tree would tell.
func TestPresenceOfNoTrees(t *testing.T) {
	check := func(name string, items []impl.Item, code int64) {
		t.Helper()
		if got := impl.PresenceOf(items); got.Code != code || !asOne(got.Presence, impl.Presence{}) {
			t.Errorf("%s: PresenceOf tells %+v, want the code %d alone", name, got, code)
		}
	}
	first := impl.Item{Space: "jabber:client", Name: "presence"}
	for _, x := range noTrees {
		check(x.name, x.value, x.code)
		if len(x.value) > 0 && x.value[0].Depth == 0 && x.value[0].Name == "a" && len(x.value[0].Text) == 0 && len(x.value[0].Attrs) == 0 {
			check(x.name+", in a presence", append([]impl.Item{first}, x.value[1:]...), x.code)
		}
	}
	deep := chainOf(6)
	for i := range deep {
		deep[i].Depth++
	}
	check("More deeper by one than may be", append([]impl.Item{first}, deep...), impl.ErrRange)
	check("six Attrs", []impl.Item{{Space: "jabber:client", Name: "presence", Attrs: attrsOf("a", "", "from", "", "id", "", "to", "", "type", "", "x", "")}}, impl.ErrMany)
	check("Attrs that fall", []impl.Item{{Space: "jabber:client", Name: "presence", Attrs: attrsOf("to", "b", "from", "a")}}, impl.ErrTaken)
	check("a from twice", []impl.Item{{Space: "jabber:client", Name: "presence", Attrs: attrsOf("from", "a", "from", "a")}}, impl.ErrTaken)
	check("a from of 61 bytes", []impl.Item{{Space: "jabber:client", Name: "presence", Attrs: attrsOf("from", strings.Repeat("x", 61))}}, impl.ErrMany)
	check("a status of 61 bytes", []impl.Item{first, {Depth: 1, Space: "jabber:client", Name: "status"}, {Depth: 2, Text: strings.Repeat("x", 61)}}, impl.ErrMany)
	check("two texts in a status", []impl.Item{first, {Depth: 1, Space: "jabber:client", Name: "status"}, {Depth: 2, Text: "x"}, {Depth: 2, Text: "y"}}, impl.ErrForm)
}

// someMore is trees of that many items together, one behind the other.
func someMore(from *rand.Rand, count int) []impl.Item {
	var more []impl.Item
	for len(more) < count {
		more = append(more, someTree(from, 1+from.Intn(count-len(more)), 1+from.Int63n(5))...)
	}
	for i := range more {
		if more[i].Depth > 0 && more[i].Name != "" && from.Intn(4) == 0 {
			more[i].Space = impl.ClientSpace
		}
	}
	return more
}

// somePresence is a presence without a fault, the same for the same numbers.
func somePresence(from *rand.Rand) impl.Presence {
	text := func() string {
		return []string{"", "x", someText(from, from.Intn(8))}[from.Intn(3)]
	}
	p := impl.Presence{Kind: max(0, from.Int63n(14)-7), From: text(), To: text(), Show: from.Int63n(5), Status: text(), Priority: from.Int63n(256) - 128, More: someMore(from, from.Intn(21))}
	if p.Kind != impl.KindAvailable {
		p.Show, p.Priority = 0, 0
	}
	if p.Kind > impl.KindUnavailable {
		p.Status = ""
	}
	return p
}

func TestPresencesAreReadBackFromTheirTrees(t *testing.T) {
	from := rand.New(rand.NewSource(7))
	for range 5000 {
		checkPresence(t, somePresence(from))
	}
	for _, more := range moresToKnow {
		for kind := range int64(7) {
			checkPresence(t, impl.Presence{Kind: kind, From: "a", To: "b", More: more.value})
		}
		checkPresence(t, impl.Presence{Show: 4, Status: "x", Priority: -128, More: more.value})
	}
	for priority := int64(-128); priority <= 127; priority++ {
		for show := range int64(5) {
			checkPresence(t, impl.Presence{Show: show, Priority: priority})
		}
	}
	for _, x := range textChoices {
		if x.code == impl.OK {
			checkPresence(t, impl.Presence{From: x.value})
			checkPresence(t, impl.Presence{To: x.value})
			checkPresence(t, impl.Presence{Status: x.value})
		}
	}
}

// Each field is set or not, in each way.
func TestPresencesOfEachFieldSetOrNot(t *testing.T) {
	for way := range 1 << 6 {
		for kind := range int64(7) {
			p := impl.Presence{Kind: kind}
			for i, set := range []func(){
				func() { p.From = "a@b" },
				func() { p.To = "c@d" },
				func() { p.Show = impl.ShowDnd },
				func() { p.Status = "s" },
				func() { p.Priority = 7 },
				func() { p.More = []impl.Item{{Space: "u", Name: "x"}, {Depth: 1, Text: "1"}} },
			} {
				if way>>i%2 == 1 {
					set()
				}
			}
			if saysTooMuch(p) {
				checkPresenceFault(t, "a presence that says too much", p, impl.ErrForm)
				continue
			}
			checkPresence(t, p)
		}
	}
}

// No presence without a fault has a tree with one: this is the largest.
func TestTheLargestPresence(t *testing.T) {
	wide := strings.Repeat("x", 60)
	p := impl.Presence{From: wide, To: wide, Show: 4, Status: wide, Priority: -128}
	for len(p.More) < 18 {
		p.More = append(p.More, chainOf(5)...)
	}
	p.More = append(p.More, chainOf(1)...)
	checkPresence(t, p)
	if got := impl.TreeOf(p); len(got.Items) != 27 || got.Items[12].Depth != 6 {
		t.Errorf("the tree has %d items: %+v", len(got.Items), got.Items)
	}
	p.More = append(p.More, impl.Item{Name: "a"})
	checkPresenceFault(t, "one more item", p, impl.ErrMany)
}

// insidePieces are what may stand in a presence, alone or beside others.
var insidePieces = []string{
	"<show>away</show>", "<show>xa</show>", "<show/>", "<show>no</show>", "<show a='1'>xa</show>", "<show>xa<x xmlns='u'/></show>",
	"<status>s</status>", "<status/>", "<status a=''/>", "<status><x/></status>",
	"<priority>5</priority>", "<priority>0</priority>", "<priority>05</priority>", "<priority>200</priority>", "<priority/>",
	"<x xmlns='u' a='1'>1</x>", "<show xmlns='u'/>", "<x/>", "text",
}

func TestPiecesOfPresences(t *testing.T) {
	settings := []string{
		"", " from='a' to='b'", " from='' to=''", " type='unavailable'", " type='probe'", " from='a' to='b' type='subscribed'",
		" type=''", " type='available'", " type='x'", " id='1'", " from='a' xml:lang='de'",
	}
	check := func(marks string) {
		// Two texts side by side are one.
		if read := impl.ParseXml(marks); read.Code == impl.OK {
			checkPresenceOf(t, read.Items)
		}
	}
	for _, setting := range settings {
		eachRow(insidePieces, 2, func(inside string) {
			check(inPresence(setting, inside))
		})
	}
	eachRow(insidePieces, 4, func(inside string) {
		check(inPresence("", inside))
	})
	eachRow(insidePieces, 2, func(inside string) {
		check("<presence xmlns='u'>" + inside + "</presence>")
		check("<presence xmlns='u' xmlns:c='jabber:client'><c:status>s</c:status>" + inside + "</presence>")
		check("<status xmlns='jabber:client'>" + inside + "</status>")
	})
}

// turnedItems are others that may stand in the place of an item.
func turnedItems(x impl.Item) []impl.Item {
	list := []impl.Item{{Depth: x.Depth, Text: "1"}, {Depth: x.Depth, Text: "away"}, {Depth: x.Depth, Name: "x"}}
	for depth := range int64(7) {
		turned := x
		turned.Depth = depth
		list = append(list, turned)
	}
	for _, name := range []string{"presence", "show", "status", "priority", "x"} {
		for _, space := range []string{"jabber:client", "u"} {
			list = append(list, impl.Item{Depth: x.Depth, Space: space, Name: name, Attrs: x.Attrs})
		}
	}
	for _, attrs := range [][]impl.Attr{nil, attrsOf("from", "z"), attrsOf("to", ""), attrsOf("type", ""), attrsOf("type", "probe"), attrsOf("id", "1")} {
		turned := x
		turned.Attrs = attrs
		list = append(list, turned)
	}
	return list
}

// An item is taken out, told twice, put elsewhere or turned.
func TestTreesOfPresencesWithOneItemTurned(t *testing.T) {
	from := rand.New(rand.NewSource(8))
	for range 150 {
		items := treeOtherwise(somePresence(from))
		for at := range items {
			checkPresenceOf(t, slices.Delete(slices.Clone(items), at, at+1))
			checkPresenceOf(t, slices.Insert(slices.Clone(items), at, items[at]))
			swapped := slices.Clone(items)
			other := from.Intn(len(items))
			swapped[at], swapped[other] = swapped[other], swapped[at]
			checkPresenceOf(t, swapped)
			for _, x := range turnedItems(items[at]) {
				turned := slices.Clone(items)
				turned[at] = x
				checkPresenceOf(t, turned)
			}
		}
	}
}

// What is inside tells the same, however the parts and More stand.
func TestPartsInAnyOrder(t *testing.T) {
	from := rand.New(rand.NewSource(9))
	for range 2000 {
		p := somePresence(from)
		items := treeOtherwise(p)
		var parts, more [][]impl.Item
		for _, piece := range piecesInside(items) {
			if piece[0].Space == impl.ClientSpace {
				parts = append(parts, piece)
			} else {
				more = append(more, piece)
			}
		}
		from.Shuffle(len(parts), func(i, j int) { parts[i], parts[j] = parts[j], parts[i] })
		mixed := more
		for _, part := range parts {
			mixed = slices.Insert(mixed, from.Intn(len(mixed)+1), part)
		}
		tree := append(items[:1:1], slices.Concat(mixed...)...)
		if got := impl.PresenceOf(tree); got.Code != impl.OK || !asOne(got.Presence, p) {
			t.Errorf("PresenceOf(%+v) = %+v, want %+v", tree, got, p)
		}
	}
}

// Whatever differs in a presence, be it one that has a fault, is seen.
func TestSamePresences(t *testing.T) {
	var different []impl.Presence
	mores := [][]impl.Item{nil, {{}}, {{Name: "a"}}, {{Name: "a", Attrs: attrsOf("a", "1")}}, {{Name: "a"}, {Name: "a"}}}
	texts := []string{"", "a", "\x00"}
	for way := range 3 * 3 * 3 * 3 * 3 * 3 * len(mores) {
		next := func(count int) int {
			n := way % count
			way /= count
			return n
		}
		different = append(different, impl.Presence{
			Kind: []int64{0, 1, -1}[next(3)], Show: []int64{0, 1, 1 << 32}[next(3)], Priority: []int64{0, 1, 1000}[next(3)],
			From: texts[next(3)], To: texts[next(3)], Status: texts[next(3)], More: mores[next(len(mores))]})
	}
	for i, a := range different {
		for j, b := range different {
			if got := impl.SamePresences(a, b); got != (i == j) {
				t.Fatalf("SamePresences(%+v, %+v) is %v", a, b, got)
			}
		}
	}
	for _, x := range slices.Concat(moresToKnow, noMores) {
		p := impl.Presence{Kind: 9, From: "a", More: x.value}
		if q := (impl.Presence{Kind: 9, From: "a", More: copyOf(x.value)}); !impl.SamePresences(p, q) {
			t.Errorf("%s: a presence is not the same as its copy", x.name)
		}
	}
	if !impl.SamePresences(impl.Presence{More: nil}, impl.Presence{More: []impl.Item{}}) {
		t.Error("an empty More and none are not the same")
	}
}

// checkOverwritten looks at answers that have been written over by fillItems.
func checkOverwritten(t *testing.T, trees [][]impl.Item) {
	t.Helper()
	for _, list := range trees {
		for _, x := range list[:cap(list)] {
			if x.Depth != -1 || x.Text+x.Space+x.Name != "???" || x.Attrs != nil {
				t.Errorf("a later call wrote %+v into an answer", x)
			}
		}
	}
}

func TestAnswersOfChapter7AreNewMemory(t *testing.T) {
	var trees [][]impl.Item
	for _, x := range presencesToKnow {
		p, items := x.presence, markedItems(t, x.marks)
		p.More = copyOf(p.More)
		tree, more := impl.TreeOf(p).Items, impl.PresenceOf(items).Presence.More
		fillItems(tree, "?")
		fillItems(more, "?")
		trees = append(trees, tree, more)
		if !asOne(p, x.presence) || !sameLists(items, markedItems(t, x.marks)) {
			t.Errorf("%s: what is written into an answer shows in its argument", x.name)
		}
		checkPresence(t, p)
		checkPresenceOf(t, items)
	}
	checkOverwritten(t, trees)
}

func TestAnswersOfChapter7DoNotTurnWithArguments(t *testing.T) {
	for _, x := range presencesToKnow {
		p, items := x.presence, markedItems(t, x.marks)
		p.More = copyOf(p.More)
		tree, read := impl.TreeOf(p), impl.PresenceOf(items)
		fillItems(p.More, "?")
		fillItems(items, "?")
		if !sameLists(tree.Items, markedItems(t, x.marks)) || !asOne(read.Presence, x.presence) {
			t.Errorf("%s: an answer turns with its argument", x.name)
		}
	}
}

// checkApart writes into the Attrs of each item, and behind their ends.
func checkApart(t *testing.T, name string, items []impl.Item, want []impl.Item) {
	t.Helper()
	if !sameLists(items, want) {
		t.Fatalf("%s: %+v, want %+v", name, items, want)
	}
	for i := range items {
		fill(items[i].Attrs[len(items[i].Attrs):], impl.Attr{Name: "room"})
		items[i].Attrs = append(items[i].Attrs, impl.Attr{Name: "more"})
		fill(items[i].Attrs, impl.Attr{Name: "?"})
		if !sameLists(items[i+1:], want[i+1:]) {
			t.Errorf("%s: the Attrs at %d share memory with others", name, i)
		}
	}
}

// What is written into one list of an answer, or behind its end, is in no other,
// though the lists of the argument are one.
func TestListsOfAPresenceShareNothing(t *testing.T) {
	attrs := attrsOf("a", "1", "b", "2")
	p := impl.Presence{From: "a", To: "b", More: []impl.Item{{Name: "x", Attrs: attrs}, {Depth: 1, Name: "y", Attrs: attrs}, {Name: "z", Attrs: attrs[:1]}}}
	items := treeOtherwise(p)
	wanted := copyOf(items)
	tree, again := impl.TreeOf(p), impl.TreeOf(p)
	checkApart(t, "TreeOf", tree.Items, wanted)
	read := impl.PresenceOf(items)
	checkApart(t, "PresenceOf", read.Presence.More, copyOf(p.More))
	if !slices.Equal(attrs, attrsOf("a", "1", "b", "2")) || !sameLists(again.Items, wanted) || !sameLists(items, wanted) {
		t.Error("an answer shares the Attrs of its argument")
	}
}

func TestChapter7ChangesNoArgument(t *testing.T) {
	var all [][]impl.Item
	for _, x := range slices.Concat(moresToKnow, noMores, noTrees) {
		all = append(all, withRoom(x.value[:min(len(x.value), 60)]))
	}
	for _, x := range presencesToKnow {
		all = append(all, withRoom(markedItems(t, x.marks)), withRoom(x.presence.More))
	}
	for _, x := range noPresences {
		all = append(all, withRoom(markedItems(t, x.value)))
	}
	for _, items := range all {
		before := allOf(items)
		p := impl.Presence{Kind: 1, Status: "x", More: items}
		impl.MoreFault(items)
		impl.PresenceFault(p)
		impl.TreeOf(p)
		impl.TreeOf(impl.Presence{Show: 1, Status: "x", Priority: 1, More: items})
		impl.PresenceOf(items)
		impl.SamePresences(p, impl.Presence{More: all[0]})
		impl.SamePresences(p, p)
		if !sameLists(allOf(items), before) {
			t.Errorf("%+v has been changed", items)
		}
	}
}

// A tree that could not be read, wherever its reading ended, changes nothing of
// what the next one says; nor does one that was read.
func TestNothingIsKeptFromPresenceToPresence(t *testing.T) {
	for _, x := range presencesToKnow {
		items := markedItems(t, x.marks)
		for _, other := range noPresences {
			otherItems := markedItems(t, other.value)
			impl.PresenceOf(otherItems)
			if got := impl.PresenceOf(items); got.Code != impl.OK || !asOne(got.Presence, x.presence) {
				t.Errorf("%s behind %s: %+v", x.name, other.name, got)
			}
			if got := impl.PresenceOf(otherItems); got.Code != other.code || !asOne(got.Presence, impl.Presence{}) {
				t.Errorf("%s behind %s: %+v", other.name, x.name, got)
			}
		}
		for _, other := range presencesToKnow {
			impl.TreeOf(other.presence)
			impl.PresenceOf(markedItems(t, other.marks))
			checkPresence(t, x.presence)
		}
	}
}

func TestAnswersOfChapter7HangOnArgumentsAlone(t *testing.T) {
	var trees [][]impl.Item
	for _, x := range presencesToKnow {
		trees = append(trees, markedItems(t, x.marks))
	}
	var all sync.WaitGroup
	for range 8 {
		all.Go(func() {
			for i := range 200 {
				x, items := presencesToKnow[i%len(presencesToKnow)], trees[i%len(trees)]
				if impl.PresenceOf(nil).Code != impl.ErrMany || impl.PresenceOf(rowOf(3)).Code != impl.ErrForm || impl.TreeOf(impl.Presence{Kind: 7}).Code != impl.ErrRange || impl.MoreFault(rowOf(21)) != impl.ErrMany || impl.NumberOf("-0").Code != impl.ErrText || impl.KindWord(-1).Code != impl.ErrRange {
					t.Error("a fault is told otherwise at a later call")
				}
				if read := impl.PresenceOf(items); !impl.SamePresences(read.Presence, x.presence) || !sameLists(impl.TreeOf(x.presence).Items, items) || impl.PresenceFault(x.presence) != impl.OK || impl.ShowWord(4).Text != "xa" || impl.NumberText(-5).Text != "-5" {
					t.Error("an answer is another one at a later call")
				}
			}
		})
	}
	all.Wait()
}

func FuzzNumberOf(f *testing.F) {
	for _, word := range []string{"", "-", "0", "-0", "00", "05", "+1", "999", "-999", "1000", " 1", "1_0"} {
		f.Add(word)
	}
	f.Fuzz(func(t *testing.T, word string) {
		checkNumber(t, word)
	})
}

func FuzzPresenceOf(f *testing.F) {
	for _, x := range presencesToKnow {
		f.Add(x.marks)
	}
	for _, x := range readOtherwiseWritten {
		f.Add(x.marks)
	}
	for _, x := range noPresences {
		f.Add(x.value)
	}
	f.Fuzz(func(t *testing.T, marks string) {
		checkPresenceOf(t, impl.ParseXml(marks).Items)
	})
}

func FuzzTreeOf(f *testing.F) {
	f.Add(int64(0), "a", "b", int64(4), "s", int64(-5), []byte("\x01\x00\x00\x02\x00\x00\x01\x00\x00"))
	f.Add(int64(1), "", "", int64(0), "s", int64(0), []byte("\x01\x00\x00\x82\x00\x00\x02\x00\x00"))
	f.Add(int64(6), "a", "b", int64(0), "", int64(0), []byte("\x01\x00\xfa\x02\x00\xfb\x83\xf1\x00"))
	f.Fuzz(func(t *testing.T, kind int64, from, to string, show int64, status string, priority int64, data []byte) {
		p := impl.Presence{Kind: kind, From: from, To: to, Show: show, Status: status, Priority: priority, More: itemsIn(data)}
		want := presenceFaultOtherwise(p)
		checkPresenceFault(t, "a presence", p, want)
		if want == impl.OK {
			checkPresence(t, p)
		}
		checkPresenceOf(t, p.More)
	})
}
