package tests

import (
	"bytes"
	"encoding/binary"
	"math"
	"math/rand"
	"slices"
	"strconv"
	"strings"
	"sync"
	"testing"

	"loop.example/g00795/impl"
)

// A framePiece is what a frame is made of: a string, or else a number.
type framePiece struct {
	isText bool
	text   string
	n      uint64
}

func (p framePiece) form() []byte {
	if p.isText {
		return append(binary.AppendUvarint(nil, uint64(len(p.text))), p.text...)
	}
	return binary.AppendUvarint(nil, p.n)
}

func formOfPieces(pieces []framePiece) []byte {
	frame := []byte{}
	for _, p := range pieces {
		frame = append(frame, p.form()...)
	}
	return frame
}

func eachStringOf(items []impl.Item, tell func(text string)) {
	for _, x := range items {
		if x.Name == "" {
			tell(x.Text)
			continue
		}
		tell(x.Space)
		tell(x.Name)
		for _, a := range x.Attrs {
			tell(a.Name)
			tell(a.Value)
		}
	}
}

func stringsOtherwise(items []impl.Item) []string {
	var list []string
	eachStringOf(items, func(text string) {
		if !slices.Contains(list, text) {
			list = append(list, text)
		}
	})
	return list
}

// piecesBy tells items by any list of strings, and by any of the places at
// which these stand in it.
func piecesBy(list []string, items []impl.Item, place func(text string) int) []framePiece {
	pieces := []framePiece{{n: uint64(len(list))}}
	for _, text := range list {
		pieces = append(pieces, framePiece{isText: true, text: text})
	}
	number := func(n int64) { pieces = append(pieces, framePiece{n: uint64(n)}) }
	number(int64(len(items)))
	for _, x := range items {
		number(x.Depth)
		if x.Name == "" {
			number(0)
			number(int64(place(x.Text)))
			continue
		}
		number(1)
		number(int64(place(x.Space)))
		number(int64(place(x.Name)))
		number(int64(len(x.Attrs)))
		for _, a := range x.Attrs {
			number(int64(place(a.Name)))
			number(int64(place(a.Value)))
		}
	}
	return pieces
}

func piecesOf(items []impl.Item) []framePiece {
	list := stringsOtherwise(items)
	return piecesBy(list, items, func(text string) int { return slices.Index(list, text) })
}

func packOtherwise(items []impl.Item) []byte {
	return formOfPieces(piecesOf(items))
}

// A frameCursor goes through a frame as long as it is ok.
type frameCursor struct {
	rest []byte
	list []string
	met  int
	ok   bool
}

func (c *frameCursor) need(ok bool) {
	if !ok {
		c.ok, c.rest = false, nil
	}
}

func (c *frameCursor) number() uint64 {
	n, size := binary.Uvarint(c.rest)
	c.need(size > 0 && n <= math.MaxInt64 && (size == 1 || c.rest[size-1] != 0))
	if !c.ok {
		return 0
	}
	c.rest = c.rest[size:]
	return n
}

func (c *frameCursor) text() string {
	size := c.number()
	c.need(size <= uint64(len(c.rest)))
	if !c.ok {
		return ""
	}
	text := string(c.rest[:size])
	c.rest = c.rest[size:]
	return text
}

// named asks that the strings are named for the first time one after the other.
func (c *frameCursor) named() string {
	place := c.number()
	c.need(place <= uint64(c.met) && place < uint64(len(c.list)))
	if !c.ok {
		return ""
	}
	if place == uint64(c.met) {
		c.met++
	}
	return c.list[place]
}

func (c *frameCursor) item() impl.Item {
	x := impl.Item{Depth: int64(c.number())}
	switch c.number() {
	case 0:
		x.Text = c.named()
	case 1:
		x.Space, x.Name = c.named(), c.named()
		for left := c.number(); left > 0 && c.ok; left-- {
			x.Attrs = append(x.Attrs, impl.Attr{Name: c.named(), Value: c.named()})
		}
		c.need(x.Name != "")
	default:
		c.need(false)
	}
	return x
}

// unpackOtherwise asks on the way whether each part of a frame is as that of a
// tree, and writes nothing. It rests on the TreeFault, which has tests of its
// own, and asks that of all strings, too.
func unpackOtherwise(frame []byte) impl.TreeResult {
	if len(frame) > 3000 {
		return impl.TreeResult{Code: impl.ErrMany}
	}
	c := frameCursor{rest: frame, ok: true}
	for left := c.number(); left > 0 && c.ok; left-- {
		text := c.text()
		c.need(!slices.Contains(c.list, text))
		c.list = append(c.list, text)
	}
	var items []impl.Item
	for left := c.number(); left > 0 && c.ok; left-- {
		items = append(items, c.item())
	}
	c.need(c.met == len(c.list) && len(c.rest) == 0)
	if !c.ok || impl.TreeFault(items) != impl.OK {
		return impl.TreeResult{Code: impl.ErrText}
	}
	return impl.TreeResult{Items: items}
}

// checkPacked is the promise of a tree: it is read back from its frame.
func checkPacked(t *testing.T, items []impl.Item) {
	t.Helper()
	if got := impl.StringsOf(items); got.Code != impl.OK || !slices.Equal(got.List, stringsOtherwise(items)) {
		t.Fatalf("StringsOf(%+v) = %+v, want %q", items, got, stringsOtherwise(items))
	}
	frame := packOtherwise(items)
	if got := impl.PackTree(items); got.Code != impl.OK || !bytes.Equal(got.Bytes, frame) {
		t.Fatalf("PackTree(%+v) = %v, want %v", items, got, frame)
	}
	want := impl.TreeResult{Items: items}
	if len(frame) > 3000 {
		want = impl.TreeResult{Code: impl.ErrMany}
	}
	checkUnpack(t, frame, want)
}

func checkUnpack(t *testing.T, frame []byte, want impl.TreeResult) {
	t.Helper()
	if got := impl.UnpackTree(frame); got.Code != want.Code || !sameLists(got.Items, want.Items) {
		t.Errorf("UnpackTree(%.200v) = %+v, want %+v", frame, got, want)
	}
}

// checkFrame is the promise of any bytes: those that are read are the frame of
// what is read.
func checkFrame(t *testing.T, frame []byte) bool {
	t.Helper()
	want := unpackOtherwise(frame)
	checkUnpack(t, frame, want)
	if want.Code != impl.OK {
		return false
	}
	if got := impl.PackTree(want.Items); got.Code != impl.OK || !bytes.Equal(got.Bytes, frame) {
		t.Errorf("PackTree(%+v) = %v, want %v", want.Items, got, frame)
	}
	return true
}

func checkNoFrame(t *testing.T, name string, frame []byte) {
	t.Helper()
	if got := impl.UnpackTree(frame); got.Code != impl.ErrText || len(got.Items) != 0 {
		t.Errorf("%s: UnpackTree(%.200v) = %+v, want ErrText alone", name, frame, got)
	}
	checkFrame(t, frame)
}

// framesToKnow are trees with their strings and frames, told byte by byte.
var framesToKnow = []struct {
	name  string
	items []impl.Item
	list  []string
	frame []byte
}{
	{"one element", []impl.Item{{Name: "a"}}, []string{"", "a"},
		[]byte{2, 0, 1, 'a', 1, 0, 1, 0, 1, 0}},
	{"one element with a Space", []impl.Item{{Space: "u", Name: "a"}}, []string{"u", "a"},
		[]byte{2, 1, 'u', 1, 'a', 1, 0, 1, 0, 1, 0}},
	{"a Space that is the Name", []impl.Item{{Space: "a", Name: "a"}}, []string{"a"},
		[]byte{1, 1, 'a', 1, 0, 1, 0, 0, 0}},
	{"a Space and a Value that are empty", []impl.Item{{Name: "a", Attrs: attrsOf("b", "")}}, []string{"", "a", "b"},
		[]byte{3, 0, 1, 'a', 1, 'b', 1, 0, 1, 0, 1, 1, 2, 0}},
	{"a Value that is empty", []impl.Item{{Space: "u", Name: "a", Attrs: attrsOf("b", "")}}, []string{"u", "a", "b", ""},
		[]byte{4, 1, 'u', 1, 'a', 1, 'b', 0, 1, 0, 1, 0, 1, 1, 2, 3}},
	{"a Name that is a key, and a Value", []impl.Item{{Name: "a", Attrs: attrsOf("a", "a", "b", "a")}}, []string{"", "a", "b"},
		[]byte{3, 0, 1, 'a', 1, 'b', 1, 0, 1, 0, 1, 2, 1, 1, 2, 1}},
	{"a Value that is the next key", []impl.Item{{Name: "a", Attrs: attrsOf("b", "c", "c", "b")}}, []string{"", "a", "b", "c"},
		[]byte{4, 0, 1, 'a', 1, 'b', 1, 'c', 1, 0, 1, 0, 1, 2, 2, 3, 3, 2}},
	{"the same everywhere", []impl.Item{{Space: "a", Name: "a", Attrs: attrsOf("a", "a")}, {Depth: 1, Text: "a"}, {Depth: 1, Space: "a", Name: "a"}}, []string{"a"},
		[]byte{1, 1, 'a', 3, 0, 1, 0, 0, 1, 0, 0, 1, 0, 0, 1, 1, 0, 0, 0}},
	{"a text that is the Name", []impl.Item{{Name: "a"}, {Depth: 1, Text: "a"}}, []string{"", "a"},
		[]byte{2, 0, 1, 'a', 2, 0, 1, 0, 1, 0, 1, 0, 1}},
	{"a text, then its key", []impl.Item{{Name: "a"}, {Depth: 1, Text: "x"}, {Depth: 1, Name: "x", Attrs: attrsOf("x", "y")}}, []string{"", "a", "x", "y"},
		[]byte{4, 0, 1, 'a', 1, 'x', 1, 'y', 3, 0, 1, 0, 1, 0, 1, 0, 2, 1, 1, 0, 2, 1, 2, 3}},
	{"a string that another one begins with", []impl.Item{{Space: "ab", Name: "a"}, {Depth: 1, Text: "abc"}}, []string{"ab", "a", "abc"},
		[]byte{3, 2, 'a', 'b', 1, 'a', 3, 'a', 'b', 'c', 2, 0, 1, 0, 1, 0, 1, 0, 2}},
	{"great and small letters", []impl.Item{{Space: "A", Name: "a"}}, []string{"A", "a"},
		[]byte{2, 1, 'A', 1, 'a', 1, 0, 1, 0, 1, 0}},
	{"Attrs met in order, though their strings fall", []impl.Item{{Space: "z", Name: "y", Attrs: attrsOf("b", "x", "c", "a")}}, []string{"z", "y", "b", "x", "c", "a"},
		[]byte{6, 1, 'z', 1, 'y', 1, 'b', 1, 'x', 1, 'c', 1, 'a', 1, 0, 1, 0, 1, 2, 2, 3, 4, 5}},
	{"a language", []impl.Item{{Name: "a", Attrs: attrsOf("xml:lang", "de")}}, []string{"", "a", "xml:lang", "de"},
		[]byte{4, 0, 1, 'a', 8, 'x', 'm', 'l', ':', 'l', 'a', 'n', 'g', 2, 'd', 'e', 1, 0, 1, 0, 1, 1, 2, 3}},
	{"a point in three bytes", []impl.Item{{Name: "a"}, {Depth: 1, Text: "\xe2\x82\xac\n"}}, []string{"", "a", "\xe2\x82\xac\n"},
		[]byte{3, 0, 1, 'a', 4, 226, 130, 172, 10, 2, 0, 1, 0, 1, 0, 1, 0, 2}},
	{"up and down", []impl.Item{{Space: "u", Name: "a", Attrs: attrsOf("id", "1")}, {Depth: 1, Text: "x"}, {Depth: 1, Space: "v", Name: "b"}, {Depth: 2, Text: "y"}, {Depth: 1, Space: "u", Name: "c"}},
		[]string{"u", "a", "id", "1", "x", "v", "b", "y", "c"},
		[]byte{9, 1, 'u', 1, 'a', 2, 'i', 'd', 1, '1', 1, 'x', 1, 'v', 1, 'b', 1, 'y', 1, 'c', 5, 0, 1, 0, 1, 1, 2, 3, 1, 0, 4, 1, 1, 5, 6, 0, 2, 0, 7, 1, 1, 0, 8, 0}},
	{"as deep as may be", append(chainOf(5), impl.Item{Depth: 6, Text: "x"}), []string{"", "a", "x"},
		[]byte{3, 0, 1, 'a', 1, 'x', 7, 0, 1, 0, 1, 0, 1, 1, 0, 1, 0, 2, 1, 0, 1, 0, 3, 1, 0, 1, 0, 4, 1, 0, 1, 0, 5, 1, 0, 1, 0, 6, 0, 2}},
	{"five Attrs", []impl.Item{{Name: "a", Attrs: attrsOf("a", "", "b", "", "c", "", "d", "", "e", "")}}, []string{"", "a", "b", "c", "d", "e"},
		[]byte{6, 0, 1, 'a', 1, 'b', 1, 'c', 1, 'd', 1, 'e', 1, 0, 1, 0, 1, 5, 1, 0, 2, 0, 3, 0, 4, 0, 5, 0}},
	{"40 items", rowOf(40), []string{"", "a", "b"},
		append([]byte{3, 0, 1, 'a', 1, 'b', 40, 0, 1, 0, 1, 0}, bytes.Repeat([]byte{1, 1, 0, 2, 0}, 39)...)},
}

// textFrame is an element a with a text in it, whose bytes are told with how
// many they are.
func textFrame(bytes ...byte) []byte {
	frame := append([]byte{3, 0, 1, 'a'}, bytes...)
	return append(frame, 2, 0, 1, 0, 1, 0, 1, 0, 2)
}

// noFrames are bytes that are the frame of no tree.
var noFrames = map[string][]byte{
	"nil":                       nil,
	"no bytes":                  {},
	"no strings":                {0},
	"no strings, no items":      {0, 0},
	"no strings, one item":      {0, 1},
	"no items":                  {2, 0, 1, 'a', 0},
	"no items, and the frame":   {0, 0, 2, 0, 1, 'a', 1, 0, 1, 0, 1, 0},
	"a number that goes on":     {128},
	"bytes 0":                   make([]byte, 100),
	"bytes 255":                 bytes.Repeat([]byte{255}, 100),
	"a byte 0 behind":           {2, 0, 1, 'a', 1, 0, 1, 0, 1, 0, 0},
	"a second frame behind":     {2, 0, 1, 'a', 1, 0, 1, 0, 1, 0, 2, 0, 1, 'a', 1, 0, 1, 0, 1, 0},
	"a second item behind":      {2, 0, 1, 'a', 1, 0, 1, 0, 1, 0, 1, 1, 0, 1, 0},
	"one item less than told":   {2, 0, 1, 'a', 2, 0, 1, 0, 1, 0},
	"one string less than told": {3, 0, 1, 'a', 1, 0, 1, 0, 1, 0},
	"one string more than told": {1, 0, 1, 'a', 1, 0, 1, 0, 1, 0},
	"an Attr less than told":    {3, 0, 1, 'a', 1, 'b', 1, 0, 1, 0, 1, 2, 2, 0},
	"an Attr more than told":    {3, 0, 1, 'a', 1, 'b', 1, 0, 1, 0, 1, 0, 2, 0},

	"a string that nobody names, ahead":    {3, 1, 'x', 0, 1, 'a', 1, 0, 1, 1, 2, 0},
	"a string that nobody names, between":  {3, 0, 1, 'x', 1, 'a', 1, 0, 1, 0, 2, 0},
	"a string that nobody names, behind":   {3, 0, 1, 'a', 1, 'x', 1, 0, 1, 0, 1, 0},
	"the empty string, named by nobody":    {3, 1, 'u', 1, 'a', 0, 1, 0, 1, 0, 1, 0},
	"only strings that nobody names":       {1, 1, 'x', 0},
	"a string twice, the first one named":  {3, 0, 1, 'a', 1, 'a', 1, 0, 1, 0, 1, 0},
	"a string twice, the second one named": {3, 0, 1, 'a', 1, 'a', 1, 0, 1, 0, 2, 0},
	"a string twice, each one named":       {2, 1, 'a', 1, 'a', 1, 0, 1, 0, 1, 0},
	"a string twice, each named in turn":   {2, 1, 'a', 1, 'a', 1, 0, 1, 1, 0, 0},
	"the empty string twice":               {3, 0, 0, 1, 'a', 1, 0, 1, 0, 2, 0},
	"the empty string twice, each named":   {4, 0, 1, 'a', 1, 'b', 0, 1, 0, 1, 0, 1, 1, 2, 3},
	"strings in another order":             {2, 1, 'a', 0, 1, 0, 1, 1, 0, 0},
	"strings that rise, but are not met so": {
		3, 0, 1, 'a', 1, 'b', 1, 0, 1, 0, 2, 1, 1, 0},
	"strings of a text ahead of an element's": {
		3, 1, 'x', 0, 1, 'a', 2, 0, 1, 1, 2, 0, 1, 0, 0},
	"a Value ahead of its key": {4, 0, 1, 'a', 1, 'v', 1, 'k', 1, 0, 1, 0, 1, 1, 3, 2},
	"a key ahead of the Name":  {3, 0, 1, 'k', 1, 'a', 1, 0, 1, 0, 2, 1, 1, 0},

	"a Space at a place that is not there": {2, 0, 1, 'a', 1, 0, 1, 2, 1, 0},
	"a Name at a place that is not there":  {2, 0, 1, 'a', 1, 0, 1, 0, 2, 0},
	"a Text at a place that is not there":  {3, 0, 1, 'a', 1, 'x', 2, 0, 1, 0, 1, 0, 1, 0, 3},
	"a key at a place that is not there":   {3, 0, 1, 'a', 1, 'b', 1, 0, 1, 0, 1, 1, 3, 0},
	"a Value at a place that is not there": {3, 0, 1, 'a', 1, 'b', 1, 0, 1, 0, 1, 1, 2, 3},
	"a Value at the greatest place":        {3, 0, 1, 'a', 1, 'b', 1, 0, 1, 0, 1, 1, 2, 255, 255, 255, 255, 255, 255, 255, 255, 127},
	"a Space at the place 4294967296":      {2, 0, 1, 'a', 1, 0, 1, 128, 128, 128, 128, 16, 1, 0},
	"a Name at the place 256":              {2, 0, 1, 'a', 1, 0, 1, 0, 129, 2, 0},

	"how many strings, a nought behind": {130, 0, 0, 1, 'a', 1, 0, 1, 0, 1, 0},
	"how many bytes, a nought behind":   {2, 0, 129, 0, 'a', 1, 0, 1, 0, 1, 0},
	"no bytes, a nought behind":         {2, 128, 0, 1, 'a', 1, 0, 1, 0, 1, 0},
	"how many items, a nought behind":   {2, 0, 1, 'a', 129, 0, 0, 1, 0, 1, 0},
	"the Depth, a nought behind":        {2, 0, 1, 'a', 1, 128, 0, 1, 0, 1, 0},
	"the kind, a nought behind":         {2, 0, 1, 'a', 1, 0, 129, 0, 0, 1, 0},
	"the Space, a nought behind":        {2, 0, 1, 'a', 1, 0, 1, 128, 0, 1, 0},
	"the Name, two noughts behind":      {2, 0, 1, 'a', 1, 0, 1, 0, 129, 128, 0, 0},
	"how many Attrs, a nought behind":   {2, 0, 1, 'a', 1, 0, 1, 0, 1, 128, 0},
	"MaxVar strings":                    {255, 255, 255, 255, 255, 255, 255, 255, 127, 0, 1, 'a', 1, 0, 1, 0, 1, 0},
	"MaxVar and 1 strings":              {128, 128, 128, 128, 128, 128, 128, 128, 128, 1, 0, 1, 'a', 1, 0, 1, 0, 1, 0},
	"MaxVar bytes":                      {2, 0, 255, 255, 255, 255, 255, 255, 255, 255, 127, 'a', 1, 0, 1, 0, 1, 0},
	"MaxVar items":                      {2, 0, 1, 'a', 255, 255, 255, 255, 255, 255, 255, 255, 127, 0, 1, 0, 1, 0},
	"MaxVar items, and no bytes behind": {2, 0, 1, 'a', 255, 255, 255, 255, 255, 255, 255, 255, 127},
	"4294967297 items":                  {2, 0, 1, 'a', 129, 128, 128, 128, 16, 0, 1, 0, 1, 0},
	"the Depth MaxVar":                  {2, 0, 1, 'a', 1, 255, 255, 255, 255, 255, 255, 255, 255, 127, 1, 0, 1, 0},
	"the Depth 4294967296":              {2, 0, 1, 'a', 1, 128, 128, 128, 128, 16, 1, 0, 1, 0},
	"the kind MaxVar":                   {2, 0, 1, 'a', 1, 0, 255, 255, 255, 255, 255, 255, 255, 255, 127, 0, 1, 0},
	"the kind 4294967297":               {2, 0, 1, 'a', 1, 0, 129, 128, 128, 128, 16, 0, 1, 0},
	"MaxVar Attrs":                      {2, 0, 1, 'a', 1, 0, 1, 0, 1, 255, 255, 255, 255, 255, 255, 255, 255, 127},
	"the kind 2":                        {2, 0, 1, 'a', 1, 0, 2, 0, 1, 0},
	"the kind 2, as a text":             {3, 0, 1, 'a', 1, 'x', 2, 0, 1, 0, 1, 0, 1, 2, 2},
	"the kind 256":                      {2, 0, 1, 'a', 1, 0, 129, 2, 0, 1, 0},
	"an item with a kind alone":         {2, 0, 1, 'a', 2, 0, 1, 0, 1, 0, 1, 2},

	"a text of no byte":                       {2, 0, 1, 'a', 2, 0, 1, 0, 1, 0, 1, 0, 0},
	"an element without a Name":               {1, 0, 1, 0, 1, 0, 0, 0},
	"an element without a Name, in another":   {2, 0, 1, 'a', 2, 0, 1, 0, 1, 0, 1, 1, 0, 0, 0},
	"an element with a Space, without a Name": {2, 1, 'u', 0, 1, 0, 1, 0, 1, 0},
	"an element with Attrs, without a Name":   {2, 0, 1, 'b', 1, 0, 1, 0, 0, 1, 1, 0},
	"a Name that is none":                     {2, 0, 1, '1', 1, 0, 1, 0, 1, 0},
	"a Name of 21 bytes":                      append(append([]byte{2, 0, 21}, strings.Repeat("a", 21)...), 1, 0, 1, 0, 1, 0),
	"a key that is none":                      {3, 0, 1, 'a', 1, '1', 1, 0, 1, 0, 1, 1, 2, 0},
	"the key xmlns":                           {3, 0, 1, 'a', 5, 'x', 'm', 'l', 'n', 's', 1, 0, 1, 0, 1, 1, 2, 0},
	"an empty key":                            {2, 0, 1, 'a', 1, 0, 1, 0, 1, 1, 0, 1},
	"Attrs that fall":                         {4, 0, 1, 'a', 1, 'c', 1, 'b', 1, 0, 1, 0, 1, 2, 2, 0, 3, 0},
	"two Attrs alike":                         {3, 0, 1, 'a', 1, 'b', 1, 0, 1, 0, 1, 2, 2, 0, 2, 1},
	"two Attrs the same":                      {3, 0, 1, 'a', 1, 'b', 1, 0, 1, 0, 1, 2, 2, 0, 2, 0},
	"six Attrs": {
		7, 0, 1, 'a', 1, 'b', 1, 'c', 1, 'd', 1, 'e', 1, 'f', 1, 0, 1, 0, 1, 6, 1, 0, 2, 0, 3, 0, 4, 0, 5, 0, 6, 0},

	"a text of 61 bytes":            textFrame(append([]byte{61}, strings.Repeat("x", 61)...)...),
	"a text of 128 bytes":           textFrame(append([]byte{128, 1}, strings.Repeat("x", 128)...)...),
	"a text with a byte 0":          textFrame(2, 'x', 0),
	"a text with a carriage return": textFrame(1, 13),
	"a text with half a point":      textFrame(2, 0xe2, 0x82),
	"a text with a byte 127":        textFrame(1, 127),
	"a text with a byte 255":        textFrame(1, 255),
	"a Space with a byte 0":         {2, 1, 0, 1, 'a', 1, 0, 1, 0, 1, 0},
	"a Value with half a point":     {4, 0, 1, 'a', 1, 'b', 1, 0x80, 1, 0, 1, 0, 1, 1, 2, 3},

	"a text first":                          {1, 1, 'x', 1, 0, 0, 0},
	"a text of the Depth 1 first":           {1, 1, 'x', 1, 1, 0, 0},
	"an element of the Depth 1 first":       {2, 0, 1, 'a', 1, 1, 1, 0, 1, 0},
	"an element of the Depth 7":             {2, 0, 1, 'a', 1, 7, 1, 0, 1, 0},
	"two elements of the Depth 0":           {2, 0, 1, 'a', 2, 0, 1, 0, 1, 0, 0, 1, 0, 1, 0},
	"an element deeper by 2":                {2, 0, 1, 'a', 2, 0, 1, 0, 1, 0, 2, 1, 0, 1, 0},
	"a text of the Depth 0":                 {3, 0, 1, 'a', 1, 'x', 2, 0, 1, 0, 1, 0, 0, 0, 2},
	"an element in a text":                  {3, 0, 1, 'a', 1, 'x', 3, 0, 1, 0, 1, 0, 1, 0, 2, 2, 1, 0, 1, 0},
	"two texts side by side":                {4, 0, 1, 'a', 1, 'x', 1, 'y', 3, 0, 1, 0, 1, 0, 1, 0, 2, 1, 0, 3},
	"the same text twice":                   {3, 0, 1, 'a', 1, 'x', 3, 0, 1, 0, 1, 0, 1, 0, 2, 1, 0, 2},
	"41 items":                              append([]byte{3, 0, 1, 'a', 1, 'b', 41, 0, 1, 0, 1, 0}, bytes.Repeat([]byte{1, 1, 0, 2, 0}, 40)...),
	"128 items":                             append([]byte{3, 0, 1, 'a', 1, 'b', 128, 1, 0, 1, 0, 1, 0}, bytes.Repeat([]byte{1, 1, 0, 2, 0}, 127)...),
	"elements down to the Depth 7":          packOtherwise(chainOf(7)),
	"an item too deep among 41":             packOtherwise(append(rowOf(40), impl.Item{Depth: 7, Name: "b"})),
	"a string twice, another named by none": {4, 0, 1, 'a', 1, 'a', 1, 'x', 1, 0, 1, 0, 1, 0},
	"a kind that is none, a byte behind":    {2, 0, 1, 'a', 1, 0, 3, 0, 1, 0, 9},
	"another order, and a text first":       {2, 0, 1, 'x', 1, 0, 0, 1},
	"a byte 0 in a string that nobody names, and two elements of the Depth 0": {
		3, 0, 1, 'a', 1, 0, 2, 0, 1, 0, 1, 0, 0, 1, 0, 1, 0},
}

func TestFramesToKnow(t *testing.T) {
	for _, x := range framesToKnow {
		if got := impl.StringsOf(x.items); got.Code != impl.OK || !slices.Equal(got.List, x.list) {
			t.Errorf("%s: StringsOf tells %+v, want %q", x.name, got, x.list)
		}
		if got := impl.PackTree(x.items); got.Code != impl.OK || !bytes.Equal(got.Bytes, x.frame) {
			t.Errorf("%s: PackTree tells %v, want %v", x.name, got, x.frame)
		}
		checkUnpack(t, x.frame, impl.TreeResult{Items: x.items})
		checkPacked(t, x.items)
		if !checkFrame(t, x.frame) {
			t.Errorf("%s: the other reader reads nothing", x.name)
		}
	}
}

func TestBytesThatAreNoFrame(t *testing.T) {
	for name, frame := range noFrames {
		checkNoFrame(t, name, frame)
	}
}

func TestPackTreeOfFaults(t *testing.T) {
	for _, x := range noTrees {
		if got := impl.StringsOf(x.value); got.Code != x.code || len(got.List) != 0 {
			t.Errorf("%s: StringsOf tells %+v, want the code %d alone", x.name, got, x.code)
		}
		if got := impl.PackTree(x.value); got.Code != x.code || len(got.Bytes) != 0 {
			t.Errorf("%s: PackTree tells %v, want the code %d alone", x.name, got, x.code)
		}
		if frame := packOtherwise(x.value[:min(len(x.value), 50)]); len(frame) <= 3000 {
			checkFrame(t, frame)
		}
	}
}

// wordsTree is a tree of few strings, each of which is met again and again, in
// any field.
func wordsTree(from *rand.Rand, count int) []impl.Item {
	words := []string{"", "a", "b", "c", "d", "e", "aa", "xml"}[:2+from.Intn(7)]
	word := func(least int) string { return words[least+from.Intn(len(words)-least)] }
	items := someTree(from, count, 6)
	for i := range items {
		if items[i].Name == "" {
			items[i].Text = word(1)
			continue
		}
		items[i].Space, items[i].Name, items[i].Attrs = word(0), word(1), nil
		for _, name := range words[1:min(len(words), 6)] {
			if from.Intn(2) == 0 {
				items[i].Attrs = append(items[i].Attrs, impl.Attr{Name: name, Value: word(0)})
			}
		}
	}
	return items
}

func TestTreesAreReadBackFromTheirFrames(t *testing.T) {
	eachTree(func(items []impl.Item) {
		checkPacked(t, items)
	})
	for _, items := range marksOfTrees {
		checkPacked(t, items)
	}
	from := rand.New(rand.NewSource(10))
	for range 2000 {
		checkPacked(t, spacedTree(from, 1+from.Intn(40)))
		checkPacked(t, wordsTree(from, 1+from.Intn(40)))
	}
}

// Each way in which the strings of two elements and a text may be the same.
func TestEachWayToSayTheSame(t *testing.T) {
	words := []string{"", "a", "b", "c"}
	for way := range 4 * 4 * 4 * 4 * 4 * 4 * 4 * 4 {
		word := func() string {
			next := words[way%4]
			way /= 4
			return next
		}
		items := []impl.Item{
			{Space: word(), Name: "n" + word(), Attrs: attrsOf("k"+word(), word())},
			{Depth: 1, Space: word(), Name: "n" + word()},
			{Depth: 2, Text: "n" + word()},
			{Depth: 1, Text: "k" + word()},
		}
		checkPacked(t, items)
	}
}

// Two trees that differ have two frames.
func TestFramesOfTreesThatDiffer(t *testing.T) {
	frames := map[string][]impl.Item{}
	eachList(4, 0, 3, func(items []impl.Item) {
		if !standsAsATree(items) {
			return
		}
		frame := string(impl.PackTree(items).Bytes)
		if other, met := frames[frame]; met && !sameLists(other, items) {
			t.Errorf("%+v and %+v have one frame", other, items)
		}
		frames[frame] = copyOf(items)
	})
	for name, x := range map[string][2]impl.Item{
		"a Space that is the other one's Name": {{Space: "a", Name: "b"}, {Space: "b", Name: "a"}},
		"a key that is the other one's Value":  {{Name: "a", Attrs: attrsOf("b", "c")}, {Name: "a", Attrs: attrsOf("c", "b")}},
		"an Attr without a Value":              {{Name: "a", Attrs: attrsOf("b", "")}, {Name: "a"}},
		"a Value that is in the next Attr":     {{Name: "a", Attrs: attrsOf("b", "c", "d", "")}, {Name: "a", Attrs: attrsOf("b", "", "d", "c")}},
		"strings that are cut elsewhere":       {{Space: "ab", Name: "c"}, {Space: "a", Name: "bc"}},
	} {
		if a, b := impl.PackTree(x[:1]).Bytes, impl.PackTree(x[1:]).Bytes; bytes.Equal(a, b) {
			t.Errorf("%s: both have the frame %v", name, a)
		}
		checkPacked(t, x[:1])
		checkPacked(t, x[1:])
	}
}

// eachFrame tells frames of trees to know and of some others.
func eachFrame(tell func(items []impl.Item, frame []byte)) {
	for _, x := range framesToKnow {
		tell(x.items, x.frame)
	}
	for _, items := range treesToKnow {
		tell(items, packOtherwise(items))
	}
	from := rand.New(rand.NewSource(11))
	for range 100 {
		items := wordsTree(from, 1+from.Intn(12))
		tell(items, packOtherwise(items))
	}
}

// What has been cut off stands behind the end of what is left, in its memory.
func TestFramesThatAreCutOff(t *testing.T) {
	eachFrame(func(items []impl.Item, frame []byte) {
		for size := range len(frame) {
			checkNoFrame(t, "the first "+strconv.Itoa(size), frame[:size])
			checkNoFrame(t, "the first "+strconv.Itoa(size)+" alone", slices.Clip(slices.Clone(frame[:size])))
			if size > 0 {
				checkFrame(t, frame[size:])
			}
		}
	})
}

func TestBytesBehindFrames(t *testing.T) {
	eachFrame(func(items []impl.Item, frame []byte) {
		for b := range 256 {
			checkNoFrame(t, "a byte behind", append(slices.Clone(frame), byte(b)))
			checkFrame(t, append([]byte{byte(b)}, frame...))
		}
		for _, more := range append(behind, frame, frame[1:], []byte{1, 1, 0, 0, 0}) {
			if len(more) > 0 {
				checkNoFrame(t, "bytes behind", append(slices.Clone(frame), more...))
			}
		}
	})
}

func TestFramesWithOneByteTurned(t *testing.T) {
	for _, x := range framesToKnow {
		if len(x.frame) > 60 {
			continue
		}
		for at := range len(x.frame) + 1 {
			for b := range 256 {
				checkFrame(t, slices.Insert(slices.Clone(x.frame), at, byte(b)))
				if at < len(x.frame) {
					turned := slices.Clone(x.frame)
					turned[at] = byte(b)
					checkFrame(t, turned)
				}
			}
			for end := at; end <= len(x.frame); end++ {
				checkFrame(t, slices.Delete(slices.Clone(x.frame), at, end))
				checkFrame(t, slices.Insert(slices.Clone(x.frame), at, x.frame[at:end]...))
			}
		}
	}
}

// Each number and each string of a frame is turned.
func TestFramesWithOnePieceTurned(t *testing.T) {
	numbers := []uint64{0, 1, 2, 3, 4, 5, 6, 7, 8, 39, 40, 41, 127, 128, 255, 256, 257, 2999, 3000, 3001, 1 << 16, 1<<31 - 1, 1 << 31, 1 << 32, 1<<32 + 1, 1<<32 + 2, 1 << 62, math.MaxInt64 - 1, math.MaxInt64, 1 << 63, 1<<63 + 1, math.MaxUint64}
	eachFrame(func(items []impl.Item, frame []byte) {
		pieces := piecesOf(items)
		for at, p := range pieces {
			with := func(form []byte) []byte {
				return slices.Concat(formOfPieces(pieces[:at]), form, formOfPieces(pieces[at+1:]))
			}
			form := p.form()
			if !bytes.Equal(with(form), frame) {
				t.Fatalf("the pieces %+v are not those of %v", pieces, frame)
			}
			// The number that it is, or that it begins with, in more bytes.
			_, size := binary.Uvarint(form)
			for _, noughts := range [][]byte{{0}, {128, 0}, {128, 128, 128, 128, 128, 128, 128, 0}} {
				longer := slices.Insert(slices.Clone(form), size, noughts...)
				longer[size-1] += 128
				checkNoFrame(t, "a nought behind a number", with(longer))
			}
			left := uint64(len(frame))
			for _, n := range append(numbers, p.n+1, p.n-1, left, left-1, left-uint64(at), left-uint64(at)-1) {
				checkFrame(t, with(framePiece{n: n}.form()))
				checkFrame(t, with(append(framePiece{n: n}.form(), form[size:]...)))
			}
			checkNoFrame(t, "a piece that is not there", with(nil))
			if p.isText {
				for _, text := range []string{"", "a", "b", "\x00", "\r", "\xe2\x82", "x:y", p.text + "\x7f", p.text + "0", strings.Repeat("x", 60), strings.Repeat("x", 61)} {
					checkFrame(t, with(framePiece{isText: true, text: text}.form()))
				}
			}
		}
	})
}

// Frames that tell the same items, but by other lists of strings.
func TestFramesWithOtherLists(t *testing.T) {
	from := rand.New(rand.NewSource(12))
	eachFrame(func(items []impl.Item, frame []byte) {
		met := stringsOtherwise(items)
		first := func(list []string) []byte {
			return formOfPieces(piecesBy(list, items, func(text string) int { return slices.Index(list, text) }))
		}
		if !bytes.Equal(first(met), frame) {
			t.Fatalf("%v is not the frame of %+v", first(met), items)
		}
		for at := range len(met) + 1 {
			checkNoFrame(t, "a string that nobody names", first(slices.Insert(slices.Clone(met), at, "nobody")))
			for _, text := range met {
				twice := slices.Insert(slices.Clone(met), at, text)
				last := func(text string) int { return len(twice) - 1 - slices.Index(reversed(twice), text) }
				turns := 0
				each := func(text string) int {
					turns++
					if turns%2 == 0 {
						return last(text)
					}
					return slices.Index(twice, text)
				}
				checkNoFrame(t, "a string twice, the first one named", first(twice))
				checkNoFrame(t, "a string twice, the last one named", formOfPieces(piecesBy(twice, items, last)))
				checkNoFrame(t, "a string twice, each one named", formOfPieces(piecesBy(twice, items, each)))
			}
		}
		for a := range met {
			for b := range a {
				turned := slices.Clone(met)
				turned[a], turned[b] = turned[b], turned[a]
				checkNoFrame(t, "two strings in another order", first(turned))
			}
		}
		for range 10 {
			turned := slices.Clone(met)
			from.Shuffle(len(turned), func(i, k int) { turned[i], turned[k] = turned[k], turned[i] })
			if !slices.Equal(turned, met) {
				checkNoFrame(t, "strings in another order", first(turned))
			}
		}
		sorted := slices.Sorted(slices.Values(met))
		if !slices.Equal(sorted, met) {
			checkNoFrame(t, "strings that rise", first(sorted))
		}
	})
}

func reversed(list []string) []string {
	turned := slices.Clone(list)
	slices.Reverse(turned)
	return turned
}

// Frames of items that stand wrongly, or have faults, but are packed as a tree
// would be.
func TestFramesOfItemsThatAreNoTree(t *testing.T) {
	read := 0
	check := func(items []impl.Item) {
		frame := packOtherwise(items)
		if len(frame) > 3000 {
			checkUnpack(t, frame, impl.TreeResult{Code: impl.ErrMany})
			return
		}
		if impl.TreeFault(items) != impl.OK {
			checkNoFrame(t, "no tree", frame)
		} else if checkFrame(t, frame) {
			read++
		}
	}
	check(nil)
	eachList(4, 0, 4, check)
	for _, x := range noTrees {
		// A field that a frame cannot tell is left out of it.
		if !slices.ContainsFunc(x.value, func(x impl.Item) bool {
			return x.Name != "" && x.Text != "" || x.Name == "" && (x.Space != "" || len(x.Attrs) > 0) || x.Depth < 0
		}) {
			check(x.value)
		}
	}
	for _, text := range textChoices {
		check([]impl.Item{{Space: text.value, Name: "a"}})
		check([]impl.Item{{Name: "a", Attrs: attrsOf("b", text.value)}})
		check([]impl.Item{{Name: "a"}, {Depth: 1, Text: text.value}})
	}
	for _, name := range nameChoices {
		check([]impl.Item{{Name: name.value}})
	}
	for _, attrs := range attrsChoices {
		check([]impl.Item{{Name: "a", Attrs: attrs.value}})
	}
	for _, depth := range depthChoices {
		if depth.value >= 0 {
			check([]impl.Item{{Name: "a"}, {Depth: depth.value, Name: "b"}})
		}
	}
	for count := range 60 {
		check(rowOf(count + 1)[:count])
	}
	if read < 50 {
		t.Errorf("only %d frames have been read", read)
	}
}

func TestPiecesOfFrames(t *testing.T) {
	read := 0
	count := func(text string) {
		if checkFrame(t, []byte(text)) {
			read++
		}
	}
	eachRow([]string{"\x00", "\x01", "\x02", "a"}, 9, count)
	eachRow([]string{"\x00", "\x01", "a"}, 10, count)
	eachRow([]string{"\x00", "\x01", "\x02", "\x03", "\x80", "\xff", "a"}, 6, count)
	eachRow([]string{"\x00", "\x01", "\x02", "\x03", "\x04"}, 6, func(text string) {
		count("\x03\x00\x01a\x01b\x02\x00\x01\x00\x01" + text)
	})
	if read < 10 {
		t.Errorf("only %d frames have been read", read)
	}
}

// itemsOfSize is a tree whose frame has that many bytes, from about 600 to 3400.
func itemsOfSize(t *testing.T, size int) []impl.Item {
	t.Helper()
	var items []impl.Item
	for at := range 11 {
		x := impl.Item{Depth: int64(min(at, 1)), Name: "a"}
		for k := range 5 {
			x.Attrs = append(x.Attrs, impl.Attr{Name: "k" + strconv.Itoa(k), Value: strconv.Itoa(10*at + k)})
		}
		items = append(items, x)
	}
	left := size - len(packOtherwise(items))
	for i := range items {
		for k := range items[i].Attrs {
			value := &items[i].Attrs[k].Value
			more := max(0, min(left, 60-len(*value)))
			*value += strings.Repeat("x", more)
			left -= more
		}
	}
	if got := len(packOtherwise(items)); got != size {
		t.Fatalf("the frame of %d bytes has %d", size, got)
	}
	return items
}

func TestFramesOfEachSize(t *testing.T) {
	for _, size := range []int{600, 1000, 2000, 2998, 2999, 3000, 3001, 3002, 3400} {
		items := itemsOfSize(t, size)
		frame := impl.PackTree(items)
		if frame.Code != impl.OK || len(frame.Bytes) != size {
			t.Fatalf("PackTree has the code %d and %d bytes, want %d", frame.Code, len(frame.Bytes), size)
		}
		want := impl.TreeResult{Items: items}
		if size > 3000 {
			want = impl.TreeResult{Code: impl.ErrMany}
		}
		checkUnpack(t, frame.Bytes, want)
		checkPacked(t, items)
		for name, data := range map[string][]byte{
			"bytes 0":                 make([]byte, size),
			"bytes 128":               bytes.Repeat([]byte{128}, size),
			"bytes 255":               bytes.Repeat([]byte{255}, size),
			"bytes 1":                 bytes.Repeat([]byte{1}, size),
			"a frame, and bytes 0":    append([]byte{2, 0, 1, 'a', 1, 0, 1, 0, 1, 0}, make([]byte, size-10)...),
			"a frame, without an end": packOtherwise(itemsOfSize(t, size+1))[:size],
			"another order":           append([]byte{2, 1, 'a', 0, 1, 0, 1, 1, 0, 0}, make([]byte, size-10)...),
		} {
			code := int64(impl.ErrText)
			if size > 3000 {
				code = impl.ErrMany
			}
			if got := impl.UnpackTree(data); got.Code != code || len(got.Items) != 0 {
				t.Errorf("%d bytes, %s: %+v, want the code %d alone", size, name, got, code)
			}
			checkFrame(t, data)
		}
	}
	for _, size := range []int{1 << 16, 1 << 24} {
		checkUnpack(t, make([]byte, size), impl.TreeResult{Code: impl.ErrMany})
		checkUnpack(t, bytes.Repeat([]byte{255}, size), impl.TreeResult{Code: impl.ErrMany})
	}
}

// All that chapter 4 allows, at once: as many items, and as many Attrs, with as
// many bytes, as may be.
func TestTheLongestFrames(t *testing.T) {
	text := func(at, k, size int) string {
		mark := "t" + strconv.Itoa(10*at+k)
		return mark + strings.Repeat("-", size-len(mark))
	}
	of := func(name, value int) []impl.Item {
		items := rowOf(40)
		for i := range items {
			items[i].Space, items[i].Name = text(i, 8, value), text(i, 9, name)
			for k := range 5 {
				items[i].Attrs = append(items[i].Attrs, impl.Attr{Name: text(i, k, name), Value: text(i, k, value) + "v"})
			}
		}
		return items
	}
	longest := of(20, 59)
	if got := impl.StringsOf(longest); len(got.List) != 40*12 {
		t.Errorf("StringsOf has %d strings, want 480", len(got.List))
	}
	checkPacked(t, longest)
	if got := impl.UnpackTree(impl.PackTree(longest).Bytes); got.Code != impl.ErrMany || len(got.Items) != 0 {
		t.Errorf("the longest frame: %+v, want ErrMany alone", got)
	}
	// 256 strings and more, and places of two bytes, that can be read.
	many := of(4, 4)[:24]
	for i := range many {
		many[i].Depth = int64(min(i, 1))
	}
	if frame := packOtherwise(many); len(frame) > 3000 || len(stringsOtherwise(many)) < 256 {
		t.Fatalf("%d strings in %d bytes", len(stringsOtherwise(many)), len(frame))
	}
	checkPacked(t, many)
}

// The numbers of strings about which a place has one byte more.
func TestEachNumberOfStrings(t *testing.T) {
	for count := 1; count <= 150; count++ {
		items := rowOf(39)
		for i := range count {
			at := i % 39
			items[at].Attrs = append(items[at].Attrs, impl.Attr{Name: "k" + strconv.Itoa(i/39), Value: "v" + strconv.Itoa(i)})
		}
		checkPacked(t, items)
		checkPacked(t, append(items, impl.Item{Depth: 1, Text: "last"}))
		frame := packOtherwise(items)
		if !checkFrame(t, frame) {
			t.Errorf("%d strings are not read", count)
		}
	}
}

func TestAnswersOfChapter6AreNewMemory(t *testing.T) {
	var lists [][]string
	var frames [][]byte
	var trees [][]impl.Item
	for _, x := range framesToKnow {
		items, frame := copyOf(x.items), slices.Clone(x.frame)
		list, packed, read := impl.StringsOf(items).List, impl.PackTree(items).Bytes, impl.UnpackTree(frame).Items
		fill(list, "?")
		fill(packed, 170)
		fillItems(read, "?")
		lists, frames, trees = append(lists, list), append(frames, packed), append(trees, read)
		if !sameLists(items, x.items) || !bytes.Equal(frame, x.frame) {
			t.Errorf("%s: what is written into an answer shows in its argument", x.name)
		}
		if got := impl.StringsOf(items); !slices.Equal(got.List, x.list) {
			t.Errorf("%s: StringsOf tells %q at the second call", x.name, got.List)
		}
		checkPacked(t, items)
		checkFrame(t, frame)
	}
	checkFilled(t, lists, "?")
	checkFilled(t, frames, 170)
	for _, list := range trees {
		for _, x := range list[:cap(list)] {
			if x.Depth != -1 || x.Text+x.Space+x.Name != "???" || x.Attrs != nil {
				t.Errorf("a later call wrote %+v into an answer", x)
			}
		}
	}
}

func TestAnswersOfChapter6DoNotTurnWithArguments(t *testing.T) {
	for _, x := range framesToKnow {
		items, frame := copyOf(x.items), slices.Clone(x.frame)
		list, packed, read := impl.StringsOf(items).List, impl.PackTree(items).Bytes, impl.UnpackTree(frame).Items
		fillItems(items, "?")
		fill(frame, 170)
		if !slices.Equal(list, x.list) || !bytes.Equal(packed, x.frame) || !sameLists(read, x.items) {
			t.Errorf("%s: an answer turns with its argument", x.name)
		}
	}
}

// What is written into one list of an answer, or behind its end, is in no other.
func TestListsOfAnUnpackedTreeShareNothing(t *testing.T) {
	items := []impl.Item{{Name: "a", Attrs: attrsOf("a", "1", "b", "2")}, {Depth: 1, Name: "b", Attrs: attrsOf("a", "1", "b", "2")}, {Depth: 1, Name: "b", Attrs: attrsOf("a", "1", "b", "2", "c", "3")}}
	got := impl.UnpackTree(packOtherwise(items)).Items
	for i := range got {
		fill(got[i].Attrs[len(got[i].Attrs):], impl.Attr{Name: "room"})
		got[i].Attrs = append(got[i].Attrs, impl.Attr{Name: "more"})
		fill(got[i].Attrs, impl.Attr{Name: "?"})
		for k := i + 1; k < len(got); k++ {
			if !slices.Equal(got[k].Attrs, items[k].Attrs) {
				t.Errorf("the Attrs at %d and at %d share memory", i, k)
			}
		}
	}
}

func TestChapter6ChangesNoArgument(t *testing.T) {
	var all [][]impl.Item
	for _, x := range framesToKnow {
		all = append(all, withRoom(x.items))
	}
	for _, items := range treesToKnow {
		all = append(all, withRoom(items))
	}
	for _, x := range noTrees {
		all = append(all, withRoom(x.value[:min(len(x.value), 60)]))
	}
	for _, items := range all {
		before := allOf(items)
		impl.StringsOf(items)
		impl.PackTree(items)
		if !sameLists(allOf(items), before) {
			t.Errorf("%+v has been changed", items)
		}
	}
	check := func(name string, frame []byte) {
		roomy := append(make([]byte, 0, len(frame)+50), frame...)
		fill(roomy[len(roomy):], 129)
		before := slices.Clone(roomy[:cap(roomy)])
		impl.UnpackTree(roomy)
		if !bytes.Equal(roomy[:cap(roomy)], before) {
			t.Errorf("%s: %v has been changed", name, frame)
		}
	}
	for _, x := range framesToKnow {
		check(x.name, x.frame)
	}
	for name, frame := range noFrames {
		check(name, frame)
	}
}

// A frame that could not be read, wherever its reading ended, changes nothing of
// what the next one says; nor does one that was read.
func TestNothingIsKeptFromFrameToFrame(t *testing.T) {
	for _, x := range framesToKnow {
		for name, other := range noFrames {
			impl.UnpackTree(other)
			if got := impl.UnpackTree(x.frame); got.Code != impl.OK || !sameLists(got.Items, x.items) {
				t.Errorf("%s behind %s: %+v", x.name, name, got)
			}
			if got := impl.UnpackTree(other); got.Code != impl.ErrText || len(got.Items) != 0 {
				t.Errorf("%s behind %s: %+v", name, x.name, got)
			}
		}
		for _, other := range framesToKnow {
			impl.UnpackTree(other.frame)
			impl.PackTree(other.items)
			if got := impl.StringsOf(x.items); !slices.Equal(got.List, x.list) {
				t.Errorf("%s behind %s: %q", x.name, other.name, got.List)
			}
			if got := impl.PackTree(x.items); !bytes.Equal(got.Bytes, x.frame) {
				t.Errorf("%s behind %s: %v", x.name, other.name, got.Bytes)
			}
		}
	}
	// A place that only the strings of the frame ahead have.
	impl.UnpackTree([]byte{3, 0, 1, 'a', 1, 'x', 2, 0, 1, 0, 1, 0, 1, 0, 2})
	checkNoFrame(t, "a place of the frame ahead", []byte{2, 0, 1, 'a', 2, 0, 1, 0, 1, 0, 1, 0, 2})
}

func TestAnswersOfChapter6HangOnArgumentsAlone(t *testing.T) {
	var all sync.WaitGroup
	for range 8 {
		all.Go(func() {
			for i := range 200 {
				x := framesToKnow[i%len(framesToKnow)]
				if impl.StringsOf(nil).Code != impl.ErrMany || impl.PackTree([]impl.Item{{Text: "x"}}).Code != impl.ErrForm || impl.UnpackTree([]byte{3, 0, 1, 'a', 1, 'x', 1, 0, 1, 0, 1, 0}).Code != impl.ErrText || impl.UnpackTree(make([]byte, 3001)).Code != impl.ErrMany {
					t.Error("a fault is told otherwise at a later call")
				}
				if read := impl.UnpackTree(x.frame); read.Code != impl.OK || !sameLists(read.Items, x.items) || !slices.Equal(impl.StringsOf(x.items).List, x.list) || !bytes.Equal(impl.PackTree(x.items).Bytes, x.frame) {
					t.Error("an answer is another one at a later call")
				}
			}
		})
	}
	all.Wait()
}

func FuzzUnpackTree(f *testing.F) {
	for _, x := range framesToKnow {
		f.Add(x.frame)
	}
	for _, frame := range noFrames {
		f.Add(frame)
	}
	f.Fuzz(func(t *testing.T, frame []byte) {
		checkFrame(t, frame)
	})
}

func FuzzPackTree(f *testing.F) {
	for _, seed := range []string{"", "\x01\x00\x00", "\x01\x00\x00\x02\x00\x00", "\x01\x00\x00\x82\x00\x00\x02\x00\x00", "\x01\x00\xfa\x02\x00\xfb\x83\xf1\x00"} {
		f.Add([]byte(seed))
	}
	f.Fuzz(func(t *testing.T, data []byte) {
		items := itemsIn(data)
		if fault := impl.TreeFault(items); fault != impl.OK {
			if got := impl.PackTree(items); got.Code != fault || len(got.Bytes) != 0 {
				t.Errorf("PackTree(%+v) = %+v, want the code %d alone", items, got, fault)
			}
			if got := impl.StringsOf(items); got.Code != fault || len(got.List) != 0 {
				t.Errorf("StringsOf(%+v) = %+v, want the code %d alone", items, got, fault)
			}
			return
		}
		checkPacked(t, items)
	})
}
