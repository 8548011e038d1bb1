package tests

import (
	"bytes"
	"cmp"
	"maps"
	"math/rand"
	"regexp"
	"slices"
	"strconv"
	"strings"
	"sync"
	"testing"

	"loop.example/g00795/impl"
)

const nameForm = `[A-Za-z_][A-Za-z0-9_.-]*`
const tagForm = nameForm + `(?::` + nameForm + `)?`
const settingForm = `[ \t\n]+(` + tagForm + `)[ \t\n]*=[ \t\n]*("[^"<\t\n]*"|'[^'<\t\n]*')`

var aSetting = regexp.MustCompile(settingForm)
var aBegin = regexp.MustCompile(`^<(` + tagForm + `)((?:` + settingForm + `)*)[ \t\n]*(/?)>`)
var anEnd = regexp.MustCompile(`^</(` + tagForm + `)[ \t\n]*>`)
var aText = regexp.MustCompile(`^[^<]+`)

// An openElement is one whose end is still to come: its tag name, and what each
// prefix in it stands for (without one: "").
type openElement struct {
	tag    string
	spaces map[string]string
}

// itemsOtherwise reads a marked text by what regular expressions find, without
// calling itself.
func itemsOtherwise(text string) (items []impl.Item, ok bool) {
	rest := strings.Trim(text, " \t\n")
	open := []openElement{{spaces: map[string]string{"": ""}}}
	for len(items) == 0 || len(open) > 1 {
		depth := len(open) - 1
		if run := aText.FindString(rest); run != "" && depth > 0 {
			read := readOtherwise(run)
			if read.Code != impl.OK {
				return nil, false
			}
			items = append(items, impl.Item{Depth: int64(depth), Text: read.Text})
			rest = rest[len(run):]
			continue
		}
		if end := anEnd.FindStringSubmatch(rest); end != nil {
			if depth == 0 || end[1] != open[depth].tag {
				return nil, false
			}
			open, rest = open[:depth], rest[len(end[0]):]
			continue
		}
		begin := aBegin.FindStringSubmatch(rest)
		if begin == nil || depth == 40 {
			return nil, false
		}
		spaces, attrs, ok := settingsOtherwise(begin[2], open[depth].spaces)
		prefix, name, hasPrefix := strings.Cut(begin[1], ":")
		if !hasPrefix {
			prefix, name = "", begin[1]
		}
		space, isSet := spaces[prefix]
		if !ok || !isSet || len(name) > 20 || len(prefix) > 20 {
			return nil, false
		}
		items = append(items, impl.Item{Depth: int64(depth), Space: space, Name: name, Attrs: attrs})
		if rest = rest[len(begin[0]):]; begin[len(begin)-1] == "" {
			open = append(open, openElement{begin[1], spaces})
		}
	}
	return items, rest == ""
}

func settingsOtherwise(written string, around map[string]string) (spaces map[string]string, attrs []impl.Attr, ok bool) {
	spaces = maps.Clone(around)
	met := map[string]bool{}
	for _, setting := range aSetting.FindAllStringSubmatch(written, -1) {
		name, value := setting[1], readOtherwise(setting[2][1:len(setting[2])-1])
		if met[name] || value.Code != impl.OK {
			return nil, nil, false
		}
		met[name] = true
		prefix, local, hasPrefix := strings.Cut(name, ":")
		switch {
		case len(prefix) > 20 || len(local) > 20:
			return nil, nil, false
		case name == "xmlns":
			spaces[""] = value.Text
		case !hasPrefix || name == "xml:lang":
			attrs = append(attrs, impl.Attr{Name: name, Value: value.Text})
		case prefix == "xmlns" && local != "xml" && local != "xmlns" && value.Text != "":
			spaces[local] = value.Text
		default:
			return nil, nil, false
		}
	}
	slices.SortFunc(attrs, func(a, b impl.Attr) int { return cmp.Compare(a.Name, b.Name) })
	return spaces, attrs, true
}

// parseOtherwise rests on the TreeFault, which has tests of its own.
func parseOtherwise(text string) impl.TreeResult {
	if len(text) > 3000 {
		return impl.TreeResult{Code: impl.ErrMany}
	}
	items, ok := itemsOtherwise(text)
	if !ok {
		return impl.TreeResult{Code: impl.ErrText}
	}
	if fault := impl.TreeFault(items); fault != impl.OK {
		return impl.TreeResult{Code: fault}
	}
	return impl.TreeResult{Items: items}
}

var inText = strings.NewReplacer("&", "&amp;", "<", "&lt;", ">", "&gt;")
var inValue = strings.NewReplacer("&", "&amp;", "<", "&lt;", ">", "&gt;", "\"", "&quot;", "\t", "&#9;", "\n", "&#10;")

// printOtherwise writes a tree item by item: what ends behind an item is told
// by the Depth of the next one.
func printOtherwise(items []impl.Item) string {
	out := ""
	spaces, names := make([]string, 8), make([]string, 8)
	for i, x := range items {
		next := int64(0)
		if i+1 < len(items) {
			next = items[i+1].Depth
		}
		if x.Name == "" {
			out += inText.Replace(x.Text)
		} else {
			spaces[x.Depth+1], names[x.Depth] = x.Space, x.Name
			out += "<" + x.Name
			if x.Space != spaces[x.Depth] {
				out += " xmlns=\"" + inValue.Replace(x.Space) + "\""
			}
			for _, a := range x.Attrs {
				out += " " + a.Name + "=\"" + inValue.Replace(a.Value) + "\""
			}
			out += map[bool]string{true: ">", false: "/>"}[next > x.Depth]
		}
		for depth := x.Depth - 1; depth >= next; depth-- {
			out += "</" + names[depth] + ">"
		}
	}
	return out
}

// checkTree is the promise itself: what is written is read back, in one way.
func checkTree(t *testing.T, items []impl.Item) {
	t.Helper()
	want := printOtherwise(items)
	if got := impl.PrintXml(items); got != (impl.TextResult{Text: want}) {
		t.Fatalf("PrintXml(%+v) = %+v, want %q", items, got, want)
	}
	got := impl.ParseXml(want)
	if len(want) > 3000 {
		if got.Code != impl.ErrMany || len(got.Items) != 0 || impl.IsCanonical(want) {
			t.Errorf("a text of %d bytes: %+v, want ErrMany alone", len(want), got)
		}
		return
	}
	if got.Code != impl.OK || !sameLists(got.Items, items) {
		t.Errorf("ParseXml(%q) = %+v, want %+v", want, got, items)
	}
	if !impl.IsCanonical(want) {
		t.Errorf("IsCanonical(%q) is false", want)
	}
}

// checkMarked checks what is read of any text against the other reader.
func checkMarked(t *testing.T, text string) {
	t.Helper()
	want := parseOtherwise(text)
	checkParse(t, text, want)
	if canonical := want.Code == impl.OK && printOtherwise(want.Items) == text; impl.IsCanonical(text) != canonical {
		t.Errorf("IsCanonical(%q) is %v", text, !canonical)
	}
	if want.Code == impl.OK {
		checkTree(t, want.Items)
	}
}

func checkParse(t *testing.T, text string, want impl.TreeResult) {
	t.Helper()
	if got := impl.ParseXml(text); got.Code != want.Code || !sameLists(got.Items, want.Items) {
		t.Errorf("ParseXml(%.200q) = %+v, want %+v", text, got, want)
	}
}

// marksOfTrees are trees in the one way in which they are written.
var marksOfTrees = map[string][]impl.Item{
	"<a/>":                                 {{Name: "a"}},
	"<a xmlns=\"u\"/>":                     {{Space: "u", Name: "a"}},
	"<a b=\"\"/>":                          {{Name: "a", Attrs: attrsOf("b", "")}},
	"<a>x</a>":                             {{Name: "a"}, {Depth: 1, Text: "x"}},
	"<a> </a>":                             {{Name: "a"}, {Depth: 1, Text: " "}},
	"<a>\n\t\"'=/</a>":                     {{Name: "a"}, {Depth: 1, Text: "\n\t\"'=/"}},
	"<a>]]&gt;</a>":                        {{Name: "a"}, {Depth: 1, Text: "]]>"}},
	"<xmlns xmlns=\"xmlns\" xml=\"xml\"/>": {{Space: "xmlns", Name: "xmlns", Attrs: attrsOf("xml", "xml")}},
	"<a xmlns=\"u\" id=\"1\">x<b xmlns=\"v\">y</b><c/></a>": {
		{Space: "u", Name: "a", Attrs: attrsOf("id", "1")}, {Depth: 1, Text: "x"}, {Depth: 1, Space: "v", Name: "b"}, {Depth: 2, Text: "y"}, {Depth: 1, Space: "u", Name: "c"}},
	"<a xmlns=\" &quot;&amp;&lt;&gt;&#9;&#10;'\" A=\"'\" _=\"&quot;\" a=\"\xe2\x82\xac\" xml:lang=\"&#9;&#10;\">&amp;amp;&lt;/a&gt;</a>": {
		{Space: " \"&<>\t\n'", Name: "a", Attrs: attrsOf("A", "'", "_", "\"", "a", "\xe2\x82\xac", "xml:lang", "\t\n")}, {Depth: 1, Text: "&amp;</a>"}},
	"<a><b xmlns=\"u\"><c xmlns=\"\"><d xmlns=\"u\"/></c><e/></b><f/></a>": {
		{Name: "a"}, {Depth: 1, Space: "u", Name: "b"}, {Depth: 2, Name: "c"}, {Depth: 3, Space: "u", Name: "d"}, {Depth: 2, Space: "u", Name: "e"}, {Depth: 1, Name: "f"}},
	"<a xmlns=\"u\"><b xmlns=\"\"/><b/><b xmlns=\"\"/></a>": {
		{Space: "u", Name: "a"}, {Depth: 1, Name: "b"}, {Depth: 1, Space: "u", Name: "b"}, {Depth: 1, Name: "b"}},
	"<a>x<a>y<a>z</a></a>w</a>": {
		{Name: "a"}, {Depth: 1, Text: "x"}, {Depth: 1, Name: "a"}, {Depth: 2, Text: "y"}, {Depth: 2, Name: "a"}, {Depth: 3, Text: "z"}, {Depth: 1, Text: "w"}},
	"<a><a><a><a><a><a><a/></a></a></a></a></a></a>":  chainOf(6),
	"<a><a><a><a><a><a>x</a></a></a></a></a></a>":     append(chainOf(5), impl.Item{Depth: 6, Text: "x"}),
	"<a>" + strings.Repeat("<b/>", 39) + "</a>":       rowOf(40),
	"<a>" + strings.Repeat("x", 60) + "</a>":          {{Name: "a"}, {Depth: 1, Text: strings.Repeat("x", 60)}},
	"<a>" + strings.Repeat("&amp;", 60) + "</a>":      {{Name: "a"}, {Depth: 1, Text: strings.Repeat("&", 60)}},
	"<a b=\"" + strings.Repeat("&quot;", 60) + "\"/>": {{Name: "a", Attrs: attrsOf("b", strings.Repeat("\"", 60))}},
	"<aaaaaaaaaaaaaaaaaaaa aaaaaaaaaaaaaaaaaaaa=\"\" xml:lang=\"\"/>": {
		{Name: strings.Repeat("a", 20), Attrs: attrsOf(strings.Repeat("a", 20), "", "xml:lang", "")}},
}

// marksToRead are trees that are written in other ways.
var marksToRead = map[string][]impl.Item{
	"<a ></a>":                         {{Name: "a"}},
	"<a></a>":                          {{Name: "a"}},
	"<a />":                            {{Name: "a"}},
	"<a></a >":                         {{Name: "a"}},
	" \t\n<a\n\t />\n\t ":              {{Name: "a"}},
	"\n<a\n>\n</a\n>\n":                {{Name: "a"}, {Depth: 1, Text: "\n"}},
	"<a xmlns=\"\"/>":                  {{Name: "a"}},
	"<a xmlns='u'/>":                   {{Space: "u", Name: "a"}},
	"<a xmlns:p=\"u\"/>":               {{Name: "a"}},
	"<p:a xmlns:p='u'/>":               {{Space: "u", Name: "a"}},
	"<p:a xmlns:p='u'></p:a>":          {{Space: "u", Name: "a"}},
	"<p:p xmlns:p='u'>p</p:p \n>":      {{Space: "u", Name: "p"}, {Depth: 1, Text: "p"}},
	"<p:xmlns xmlns:p='u'/>":           {{Space: "u", Name: "xmlns"}},
	"<lang:a xmlns:lang='u'/>":         {{Space: "u", Name: "a"}},
	"<_-.:_ xmlns:_-.='u'/>":           {{Space: "u", Name: "_"}},
	"<a b='1'/>":                       {{Name: "a", Attrs: attrsOf("b", "1")}},
	"<a b='\"'/>":                      {{Name: "a", Attrs: attrsOf("b", "\"")}},
	"<a b=\"&apos;\" c='&apos;\"/>'/>": {{Name: "a", Attrs: attrsOf("b", "'", "c", "'\"/>")}},
	"<a b=''\nc=\"\"/>":                {{Name: "a", Attrs: attrsOf("b", "", "c", "")}},
	"<a b \n=\t '1'/>":                 {{Name: "a", Attrs: attrsOf("b", "1")}},
	"<a\n\n\nb='1'\t\tc='2'  />":       {{Name: "a", Attrs: attrsOf("b", "1", "c", "2")}},
	"<a b='=/>' c=' '/>":               {{Name: "a", Attrs: attrsOf("b", "=/>", "c", " ")}},
	"<a c='3' xml:lang='de' b='2' B='1'/>": {
		{Name: "a", Attrs: attrsOf("B", "1", "b", "2", "c", "3", "xml:lang", "de")}},
	"<a e='' d='' c='' b='' a='' xmlns:e='5' xmlns:d='4' xmlns:c='3' xmlns:b='2' xmlns:a='1' xmlns='u'/>": {
		{Space: "u", Name: "a", Attrs: attrsOf("a", "", "b", "", "c", "", "d", "", "e", "")}},
	"<a xml-lang='1' xml.lang='2' xml='3' xmlnsa='4'/>": {
		{Name: "a", Attrs: attrsOf("xml", "3", "xml-lang", "1", "xml.lang", "2", "xmlnsa", "4")}},
	"<a p='1' xmlns:p='u'><p:a/></a>": {{Name: "a", Attrs: attrsOf("p", "1")}, {Depth: 1, Space: "u", Name: "a"}},
	"<a>></a>":                        {{Name: "a"}, {Depth: 1, Text: ">"}},
	"<a>]]></a>":                      {{Name: "a"}, {Depth: 1, Text: "]]>"}},
	"<a>&#60;b/&#x3E;&#0000038;&#x00003c;&quot;&apos;</a>": {
		{Name: "a"}, {Depth: 1, Text: "<b/>&<\"'"}},
	"<a>&#x20AC;&#128512;\xe2\x82\xac</a>": {{Name: "a"}, {Depth: 1, Text: "\xe2\x82\xac\xf0\x9f\x98\x80\xe2\x82\xac"}},
	"<a xmlns='&#117;' b='&#0000009;&#x00000a;'/>": {
		{Space: "u", Name: "a", Attrs: attrsOf("b", "\t\n")}},
	"<a xmlns:p='&#x75;' b='1' xmlns='v'><p:b/><b/></a>": {
		{Space: "v", Name: "a", Attrs: attrsOf("b", "1")}, {Depth: 1, Space: "u", Name: "b"}, {Depth: 1, Space: "v", Name: "b"}},
	" <p:a id = '1' xmlns:p='u' xmlns='v' >x<b>&#121;</b><p:c></p:c ></p:a>\n": {
		{Space: "u", Name: "a", Attrs: attrsOf("id", "1")}, {Depth: 1, Text: "x"}, {Depth: 1, Space: "v", Name: "b"}, {Depth: 2, Text: "y"}, {Depth: 1, Space: "u", Name: "c"}},
	// A space that is set, unset, and set again, on the way in and out.
	"<a xmlns='u'><b xmlns=''><c xmlns='u'><d xmlns=''/><e/></c><f/></b><g/></a>": {
		{Space: "u", Name: "a"}, {Depth: 1, Name: "b"}, {Depth: 2, Space: "u", Name: "c"}, {Depth: 3, Name: "d"}, {Depth: 3, Space: "u", Name: "e"}, {Depth: 2, Name: "f"}, {Depth: 1, Space: "u", Name: "g"}},
	"<a><b xmlns='u'/><c/><d xmlns='v'></d><e/></a>": {
		{Name: "a"}, {Depth: 1, Space: "u", Name: "b"}, {Depth: 1, Name: "c"}, {Depth: 1, Space: "v", Name: "d"}, {Depth: 1, Name: "e"}},
	"<a xmlns='u'><b xmlns='u'><c xmlns='u'/></b></a>": {
		{Space: "u", Name: "a"}, {Depth: 1, Space: "u", Name: "b"}, {Depth: 2, Space: "u", Name: "c"}},
	// A prefix that is set anew further in, and is as it was further out.
	"<p:a xmlns:p='u'><p:b xmlns:p='v'><p:c/></p:b><p:d/></p:a>": {
		{Space: "u", Name: "a"}, {Depth: 1, Space: "v", Name: "b"}, {Depth: 2, Space: "v", Name: "c"}, {Depth: 1, Space: "u", Name: "d"}},
	"<a><p:b xmlns:p='u'/><p:b xmlns:p='v'/><b/></a>": {
		{Name: "a"}, {Depth: 1, Space: "u", Name: "b"}, {Depth: 1, Space: "v", Name: "b"}, {Depth: 1, Name: "b"}},
	"<a xmlns:p='u'><b><c xmlns:p='v'><p:d/></c><p:e/></b></a>": {
		{Name: "a"}, {Depth: 1, Name: "b"}, {Depth: 2, Name: "c"}, {Depth: 3, Space: "v", Name: "d"}, {Depth: 2, Space: "u", Name: "e"}},
	// What has a prefix does not ask which space is set, and sets none.
	"<p:a xmlns:p='u'><b/></p:a>": {{Space: "u", Name: "a"}, {Depth: 1, Name: "b"}},
	"<p:a xmlns='v' xmlns:p='u'><b/><p:b xmlns=''><c/></p:b></p:a>": {
		{Space: "u", Name: "a"}, {Depth: 1, Space: "v", Name: "b"}, {Depth: 1, Space: "u", Name: "b"}, {Depth: 2, Name: "c"}},
	"<p:a xmlns:p='u' xmlns:q='u'><q:a/></p:a>": {{Space: "u", Name: "a"}, {Depth: 1, Space: "u", Name: "a"}},
	"<a xmlns='p'><p:a xmlns:p='q'/></a>":       {{Space: "p", Name: "a"}, {Depth: 1, Space: "q", Name: "a"}},
	// What is too long for a tree, but stands in none.
	"<a xmlns:p='" + strings.Repeat("x", 600) + "'/>":                             {{Name: "a"}},
	"<p:a xmlns='" + strings.Repeat("x", 61) + "' xmlns:p='u'/>":                  {{Space: "u", Name: "a"}},
	"<a>" + strings.Repeat("&#0000120;", 60) + "</a>":                             {{Name: "a"}, {Depth: 1, Text: strings.Repeat("x", 60)}},
	"<a b='" + strings.Repeat("&#x000078;", 60) + "'/>":                           {{Name: "a", Attrs: attrsOf("b", strings.Repeat("x", 60))}},
	"<aaaaaaaaaaaaaaaaaaaa:bbbbbbbbbbbbbbbbbbbb xmlns:aaaaaaaaaaaaaaaaaaaa='u'/>": {{Space: "u", Name: strings.Repeat("b", 20)}},
	"<a>" + strings.Repeat("<b></b >", 39) + "</a>":                               rowOf(40),
}

// noMarks are texts that are no marked text.
var noMarks = map[string]string{
	"nothing":                                   "",
	"blanks":                                    " \t\n",
	"a text":                                    "x",
	"a sign written otherwise":                  "&amp;",
	"a carriage return ahead":                   "\r<a/>",
	"a carriage return behind":                  "<a/>\r\n",
	"a carriage return in a tag":                "<a\r/>",
	"a form feed in a tag":                      "<a\f/>",
	"a broad blank ahead":                       "\xc2\xa0<a/>",
	"a mark of the order of bytes ahead":        "\xef\xbb\xbf<a/>",
	"a text ahead":                              "x<a/>",
	"a text behind":                             "<a/>x",
	"a byte 0 behind":                           "<a/>\x00",
	"two elements":                              "<a/><b/>",
	"two elements with an end":                  "<a></a><a></a>",
	"two elements, a blank between":             "<a/> <b/>",
	"an end alone":                              "</a>",
	"an end behind":                             "<a/></a>",
	"two ends":                                  "<a></a></a>",
	"no end":                                    "<a>",
	"no end, but a text":                        "<a>x",
	"no end of the outer one":                   "<a><b></b>",
	"no end of the inner one":                   "<a><b></a>",
	"ends crosswise":                            "<a><b></a></b>",
	"a blank behind <":                          "< a/>",
	"a line feed behind <":                      "<\na/>",
	"a blank behind </":                         "<a></ a>",
	"a blank between < and /":                   "<a>< /a>",
	"a blank between / and >":                   "<a/ >",
	"a blank between / and >, and one ahead":    "<a / >",
	"a blank in a name":                         "<a b/>",
	"a blank in the name of an end":             "<ab></a b>",
	"a blank ahead of a colon":                  "<p :a xmlns:p='u'/>",
	"a blank behind a colon":                    "<p: a xmlns:p='u'/>",
	"a blank ahead of a setting's colon":        "<p:a xmlns :p='u'/>",
	"a blank behind a setting's colon":          "<p:a xmlns: p='u'/>",
	"a blank in the name of a setting":          "<a b c='1'/>",
	"no blank ahead of a setting":               "<ab='1'/>",
	"no blank between two settings":             "<a b='1'c='2'/>",
	"no blank between two settings of spaces":   "<a xmlns='u'xmlns:p='v'/>",
	"a slash between two settings":              "<a b='1'/c='2'/>",
	"a comma between two settings":              "<a b='1',c='2'/>",
	"two slashes":                               "<a//>",
	"a slash behind an end":                     "<a></a/>",
	"an end and a beginning":                    "</a/>",
	"another end":                               "<a></b>",
	"an end that goes on":                       "<a></ab>",
	"an end that is cut off":                    "<ab></a>",
	"an end in great letters":                   "<a></A>",
	"an end without the prefix":                 "<p:a xmlns:p='u'></a>",
	"an end with a prefix":                      "<a xmlns:p=''></p:a>",
	"an end with a prefix of the same space":    "<p:a xmlns:p='u' xmlns:q='u'></q:a>",
	"an end with a prefix of the space set":     "<a xmlns='u' xmlns:p='u'></p:a>",
	"an end with another name":                  "<p:a xmlns:p='u'></p:b>",
	"an end with a setting":                     "<a></a b='1'>",
	"an end with a space":                       "<a></a xmlns=''>",
	"no name":                                   "<>",
	"no name, at once ended":                    "</>",
	"no name in an end":                         "<a></>",
	"a name with a digit ahead":                 "<1/>",
	"a name with a - ahead":                     "<-a/>",
	"a name with another letter":                "<\xc3\xa4/>",
	"a name of 21 bytes":                        "<" + strings.Repeat("a", 21) + "/>",
	"a name of 21 bytes behind a prefix":        "<p:" + strings.Repeat("a", 21) + " xmlns:p='u'/>",
	"a prefix of 21 bytes":                      "<" + strings.Repeat("a", 21) + ":a xmlns:" + strings.Repeat("a", 21) + "='u'/>",
	"a setting of a prefix of 21 bytes":         "<a xmlns:" + strings.Repeat("a", 21) + "='u'/>",
	"a setting with a name of 21 bytes":         "<a " + strings.Repeat("a", 21) + "='u'/>",
	"a name with two colons":                    "<a:b:c xmlns:a='u' xmlns:b='v'/>",
	"a colon ahead":                             "<:a/>",
	"a colon ahead, with a space":               "<:a xmlns='u'/>",
	"a colon behind":                            "<a:/>",
	"a colon behind, with a prefix":             "<a: xmlns:a='u'/>",
	"a digit behind a prefix":                   "<p:1 xmlns:p='u'/>",
	"a prefix that is not set":                  "<p:a/>",
	"a prefix that is not set, in an element":   "<a xmlns='u'><p:b/></a>",
	"a prefix that is set for another one":      "<p:a xmlns:q='u'/>",
	"a prefix in great letters":                 "<P:a xmlns:p='u'/>",
	"a prefix whose name is a key's":            "<p:a p='u'/>",
	"a prefix that is set further in":           "<p:a><b xmlns:p='u'/></p:a>",
	"a prefix that is set beside it":            "<a><b xmlns:p='u'/><p:c/></a>",
	"a prefix that is set in one that ended":    "<a><b xmlns:p='u'><p:c/></b><p:c/></a>",
	"a prefix that is set in one far in":        "<a><b><c xmlns:p='u'></c><p:c/></b></a>",
	"a prefix that is set in the next one":      "<a><p:b/><c xmlns:p='u'/></a>",
	"the prefix xml":                            "<xml:a/>",
	"the prefix xml, and a language":            "<xml:lang xml:lang='de'/>",
	"the prefix xmlns":                          "<xmlns:a/>",
	"the prefix xmlns, with a space":            "<xmlns:a xmlns='u'/>",
	"a prefix set to nothing":                   "<a xmlns:p=''/>",
	"a prefix unset further in":                 "<p:a xmlns:p='u'><b xmlns:p=''/></p:a>",
	"a prefix that is xml":                      "<a xmlns:xml='u'/>",
	"a prefix that is xml, as it should be":     "<a xmlns:xml='http://www.w3.org/XML/1998/namespace'/>",
	"a prefix that is xmlns":                    "<a xmlns:xmlns='u'/>",
	"no prefix, but its colon":                  "<a xmlns:='u'/>",
	"no name ahead of a setting's colon":        "<a :b='u'/>",
	"a prefix with a colon":                     "<a xmlns:p:q='u'/>",
	"a prefix with a digit ahead":               "<a xmlns:1='u'/>",
	"a setting with a prefix":                   "<a p:b='1'/>",
	"a setting with a prefix that is set":       "<a xmlns:p='u' p:b='1'/>",
	"a setting with a prefix, as its element":   "<p:a xmlns:p='u' p:b='1'/>",
	"a setting with the prefix xml":             "<a xml:space='1'/>",
	"a setting with the prefix xml, and more":   "<a xml:lang:b='1'/>",
	"a language in great letters":               "<a XML:LANG='de'/>",
	"a space in great letters":                  "<a XMLNS:p='u'/>",
	"two settings of one name":                  "<a b='1' b='2'/>",
	"two settings alike":                        "<a b='1' b='1'/>",
	"two settings of one name, others between":  "<a b='1' a='2' c='3' b='4'/>",
	"two settings of one name, in two quotes":   "<a b='1' b=\"1\"/>",
	"two spaces":                                "<a xmlns='u' xmlns='v'/>",
	"two spaces alike":                          "<a xmlns='u' b='1' xmlns='u'/>",
	"a prefix set twice":                        "<a xmlns:p='u' xmlns:p='v'/>",
	"a prefix set twice alike":                  "<p:a xmlns:p='u' xmlns='v' xmlns:p='u'/>",
	"a language told twice":                     "<a xml:lang='de' xml:lang='de'/>",
	"a setting without a value":                 "<a b/>",
	"a setting without a value, but with =":     "<a b=/>",
	"a setting without a name":                  "<a ='1'/>",
	"a setting with a digit ahead":              "<a 1='1'/>",
	"a setting with two =":                      "<a b=='1'/>",
	"a value without quotes":                    "<a b=1/>",
	"a value that is not closed":                "<a b='1/>",
	"a value closed by another quote":           "<a b='1\"/>",
	"a value closed by another quote too":       "<a b=\"1'/>",
	"a value in other quotes":                   "<a b=`1`/>",
	"a value with its quote":                    "<a b='1'2'/>",
	"a value with its quote too":                "<a b=\"1\"2\"/>",
	"a value with a byte 9":                     "<a b='\t'/>",
	"a value with a byte 10":                    "<a b=\"1\n2\"/>",
	"a value with a byte 13":                    "<a b='\r'/>",
	"a value with a <":                          "<a b='<'/>",
	"a value with an element":                   "<a b='<b/>'/>",
	"a value with an & alone":                   "<a b='&'/>",
	"a value with an & and a name":              "<a b='&nbsp;'/>",
	"a value with an & that does not end":       "<a b='&amp'/>",
	"a value with a number that is no sign":     "<a b='&#13;'/>",
	"a value with half a point":                 "<a b='\xe2\x82'/>",
	"a value with a byte 0":                     "<a b='\x00'/>",
	"a value of 601 bytes":                      "<a b='" + strings.Repeat("x", 601) + "'/>",
	"a value of 601 bytes that stand for 60":    "<a b='" + strings.Repeat("&#0000120;", 59) + "&#000000120;'/>",
	"a space with a byte 9":                     "<a xmlns='\t'/>",
	"a space with an & alone":                   "<a xmlns='&'/>",
	"a space of 601 bytes":                      "<a xmlns='" + strings.Repeat("x", 601) + "'/>",
	"a prefix set to a byte 10":                 "<a xmlns:p='\n'/>",
	"a prefix set to an & alone":                "<a xmlns:p='&'/>",
	"a prefix set to 601 bytes":                 "<a xmlns:p='" + strings.Repeat("x", 601) + "'/>",
	"a language with a <":                       "<a xml:lang='<'/>",
	"a text with an & alone":                    "<a>&</a>",
	"a text with an & and a name":               "<a>&a;</a>",
	"a text with an & that does not end":        "<a>&lt</a>",
	"a text with an & that ends further on":     "<a>&l<b/>t;</a>",
	"a text with a number that is no sign":      "<a>&#0;</a>",
	"a text with a byte 13":                     "<a>\r</a>",
	"a text with half a point":                  "<a>\xe2\x82</a>",
	"a text with a point in two halves":         "<a>\xe2<b/>\x82\xac</a>",
	"a text with a byte 127":                    "<a>\x7f</a>",
	"a text of 601 bytes":                       "<a>" + strings.Repeat("x", 601) + "</a>",
	"a text of 601 bytes that stand for 60":     "<a>" + strings.Repeat("&#0000120;", 59) + "&#000000120;</a>",
	"a text with a <":                           "<a><</a>",
	"a text with a < and a blank":               "<a>1 < 2</a>",
	"a remark":                                  "<!-- x --><a/>",
	"a remark in an element":                    "<a><!-- x --></a>",
	"a heading":                                 "<?xml version='1.0'?><a/>",
	"an order":                                  "<a><?b?></a>",
	"a kind of text":                            "<!DOCTYPE a><a/>",
	"a text that is told apart":                 "<a><![CDATA[x]]></a>",
	"elements 41 deep":                          nested(41, ""),
	"elements 41 deep, a text":                  nested(41, "x"),
	"elements 428 deep":                         nested(428, ""),
	"elements 1000 deep without an end":         strings.Repeat("<a>", 1000),
	"elements 41 deep in one another elsewhere": "<a>" + nested(6, "") + nested(40, "") + "</a>",
	"the 41st element at once ended":            nested(40, "<a/>"),
	"41 deep, then something else":              nested(41, "") + "x",
}

// nested is that many elements in one another, with something in the last one.
func nested(count int, inside string) string {
	return strings.Repeat("<a>", count) + inside + strings.Repeat("</a>", count)
}

func TestTreesAreWrittenInOneWay(t *testing.T) {
	for text, items := range marksOfTrees {
		if got := impl.PrintXml(items); got != (impl.TextResult{Text: text}) {
			t.Errorf("PrintXml(%+v) = %+v, want %q", items, got, text)
		}
		checkParse(t, text, impl.TreeResult{Items: items})
		if !impl.IsCanonical(text) {
			t.Errorf("IsCanonical(%q) is false", text)
		}
		checkMarked(t, text)
	}
}

func TestTreesAreReadInMany(t *testing.T) {
	for text, items := range marksToRead {
		checkParse(t, text, impl.TreeResult{Items: items})
		if impl.IsCanonical(text) {
			t.Errorf("IsCanonical(%q) is true", text)
		}
		checkMarked(t, text)
	}
}

func TestTextsThatAreNoMarkedTexts(t *testing.T) {
	for name, text := range noMarks {
		if got := impl.ParseXml(text); got.Code != impl.ErrText || len(got.Items) != 0 {
			t.Errorf("%s: ParseXml(%.100q) = %+v, want ErrText alone", name, text, got)
		}
		if impl.IsCanonical(text) {
			t.Errorf("%s: IsCanonical(%.100q) is true", name, text)
		}
		checkMarked(t, text)
	}
}

func TestPrintXmlOfFaults(t *testing.T) {
	for _, x := range noTrees {
		if got := impl.PrintXml(x.value); got != (impl.TextResult{Code: x.code}) {
			t.Errorf("%s: %+v, want the code %d alone", x.name, got, x.code)
		}
	}
}

// The tree's own faults are asked when all of the text has been read.
func TestMarkedTextsOfTreesWithAFault(t *testing.T) {
	long := strings.Repeat("x", 61)
	for _, x := range []choice[string]{
		{"a text of 61 bytes", "<a>" + long + "</a>", impl.ErrMany},
		{"a text of 600 bytes", "<a>" + strings.Repeat("x", 600) + "</a>", impl.ErrMany},
		{"61 signs, each in some bytes", "<a>" + strings.Repeat("&#65;", 61) + "</a>", impl.ErrMany},
		{"16 signs of four bytes, written as numbers", "<a>" + strings.Repeat("&#x1f600;", 16) + "</a>", impl.ErrMany},
		{"a value of 61 bytes", "<a b='" + long + "'/>", impl.ErrMany},
		{"a value of 600 bytes", "<a b='" + strings.Repeat("x", 600) + "'/>", impl.ErrMany},
		{"a space of 61 bytes", "<a xmlns='" + long + "'/>", impl.ErrMany},
		{"a prefix that stands for 61 bytes", "<p:a xmlns:p='" + long + "'/>", impl.ErrMany},
		{"a space of 61 bytes, asked for further in", "<p:a xmlns='" + long + "' xmlns:p='u'><b/></p:a>", impl.ErrMany},
		{"six Attrs", "<a b='' c='' d='' e='' f='' g=''/>", impl.ErrMany},
		{"40 elements in one another", nested(40, ""), impl.ErrRange},
		{"seven elements in one another", nested(7, ""), impl.OK},
		{"eight elements in one another", nested(8, ""), impl.ErrRange},
		{"a text in seven elements", nested(7, "x"), impl.ErrRange},
		{"40 items", "<a>" + strings.Repeat("<b/>", 39) + "</a>", impl.OK},
		{"41 items", "<a>" + strings.Repeat("<b/>", 40) + "</a>", impl.ErrMany},
		{"41 items with texts", "<a>" + strings.Repeat("x<b/>", 20) + "</a>", impl.ErrMany},
		{"40 elements in one another, and a text", nested(40, "x"), impl.ErrMany},
		{"40 elements in one another, others beside them", "<a>" + nested(39, "") + nested(39, "") + "</a>", impl.ErrMany},
		{"745 items", "<a>" + strings.Repeat("<b/>", 744) + "</a>", impl.ErrMany},

		{"an item of the Depth 7, then a text of 61 bytes", "<a>" + nested(7, "") + long + "</a>", impl.ErrRange},
		{"a text of 61 bytes, then an item of the Depth 7", "<a>" + long + nested(7, "") + "</a>", impl.ErrMany},
		{"a text of 61 bytes, of the Depth 7", nested(7, long), impl.ErrRange},
		{"six Attrs, of the Depth 7", nested(7, "<a b='' c='' d='' e='' f='' g=''/>"), impl.ErrRange},
		{"an item of the Depth 7 among 41", "<a>" + nested(7, "") + strings.Repeat("<b/>", 40) + "</a>", impl.ErrMany},
		{"an item of the Depth 7, then another end", "<a>" + nested(7, "") + "</b>", impl.ErrText},
		{"41 items, then a prefix that is not set", "<a>" + strings.Repeat("<b/>", 40) + "<p:b/></a>", impl.ErrText},
		{"41 items, then something else", "<a>" + strings.Repeat("<b/>", 40) + "</a>x", impl.ErrText},
		{"a text of 61 bytes, then one of 601", "<a>" + long + "<b/>" + strings.Repeat("x", 601) + "</a>", impl.ErrText},
		{"a text of 61 bytes with a byte 0", "<a>" + long + "\x00</a>", impl.ErrText},
		{"six Attrs, two alike", "<a b='' c='' d='' e='' f='' b=''/>", impl.ErrText},
		{"a space of 61 bytes, and two Attrs alike", "<a xmlns='" + long + "' b='' b=''/>", impl.ErrText},
	} {
		got := impl.ParseXml(x.value)
		if got.Code != x.code || x.code != impl.OK && len(got.Items) != 0 {
			t.Errorf("%s: %+v, want the code %d", x.name, got, x.code)
		}
		if x.code != impl.OK && impl.IsCanonical(x.value) {
			t.Errorf("%s: it is canonical", x.name)
		}
		checkMarked(t, x.value)
	}
}

func TestElementsInOneAnother(t *testing.T) {
	for count := range 60 {
		checkMarked(t, nested(count, ""))
		checkMarked(t, nested(count, "x"))
		checkMarked(t, nested(count, "<b/>"))
		checkMarked(t, nested(count, "<b/><b></b>"))
		checkMarked(t, strings.Repeat("<a>", count))
	}
}

// textOf is a text in the one way, of that many bytes, and its tree.
func textOf(size int) (string, []impl.Item) {
	items := []impl.Item{{Name: "a"}}
	left := size - len("<a></a>")
	whole := impl.Item{Depth: 1, Name: "b", Attrs: attrsOf("c", strings.Repeat("\"", 60))}
	for ; left > 500; left -= len("<b c=\"\"/>") + 60*len("&quot;") {
		items = append(items, whole)
	}
	for ; left > 60; left -= 50 + len("<b/>") {
		items = append(items, impl.Item{Depth: 1, Text: strings.Repeat("x", 50)}, impl.Item{Depth: 1, Name: "b"})
	}
	items = append(items, impl.Item{Depth: 1, Text: strings.Repeat("x", left)})
	return printOtherwise(items), items
}

func TestMarkedTextsOfEachSize(t *testing.T) {
	for _, size := range []int{100, 1000, 2900, 2998, 2999, 3000, 3001, 3002, 3100, 5000} {
		text, items := textOf(size)
		if len(text) != size {
			t.Fatalf("the text of %d bytes has %d", size, len(text))
		}
		if size > 3000 {
			items = nil
		}
		for name, of := range map[string]string{"as it is": text, "blanks ahead": strings.Repeat("\n", size-4) + "<a/>", "blanks behind": "<a/>" + strings.Repeat(" ", size-4), "blanks within": "<a" + strings.Repeat("\t", size-4) + "/>", "no marked text": strings.Repeat("<", size), "bytes 0": string(make([]byte, size))} {
			got := impl.ParseXml(of)
			if (size > 3000) != (got.Code == impl.ErrMany) || size > 3000 && len(got.Items) != 0 {
				t.Errorf("%d bytes, %s: %+v", size, name, got)
			}
			if canonical := size <= 3000 && of == text; impl.IsCanonical(of) != canonical {
				t.Errorf("%d bytes, %s: IsCanonical is %v", size, name, !canonical)
			}
			checkMarked(t, of)
		}
		if got := impl.ParseXml(text); !sameLists(got.Items, items) {
			t.Errorf("%d bytes: %+v, want %+v", size, got, items)
		}
	}
	for _, size := range []int{1 << 16, 1 << 24} {
		checkParse(t, strings.Repeat(" ", size), impl.TreeResult{Code: impl.ErrMany})
		checkParse(t, strings.Repeat("<a>", size), impl.TreeResult{Code: impl.ErrMany})
	}
}

func TestTextsAndValuesOfEachSize(t *testing.T) {
	for _, size := range []int{1, 59, 60, 61, 62, 599, 600, 601, 602, 2900} {
		run := strings.Repeat("x", size)
		of := func(long int64) int64 {
			if size > 600 {
				return impl.ErrText
			}
			if size > 60 {
				return long
			}
			return impl.OK
		}
		for text, code := range map[string]int64{
			"<a>" + run + "</a>":                of(impl.ErrMany),
			"<a b='" + run + "'/>":              of(impl.ErrMany),
			"<a xml:lang=\"" + run + "\"/>":     of(impl.ErrMany),
			"<a xmlns='" + run + "'/>":          of(impl.ErrMany),
			"<p:a xmlns:p='" + run + "'/>":      of(impl.ErrMany),
			"<a xmlns:p='" + run + "'/>":        of(impl.OK),
			"<a><b xmlns:p='" + run + "'/></a>": of(impl.OK),
		} {
			if got := impl.ParseXml(text); got.Code != code {
				t.Errorf("%d bytes in %.20q: %+v, want the code %d", size, text, got, code)
			}
			checkMarked(t, text)
		}
	}
}

func TestMarkedTextsThatAreCutOff(t *testing.T) {
	check := func(text string) {
		text = strings.TrimRight(text, " \t\n")
		for size := range len(text) {
			checkParse(t, text[:size], impl.TreeResult{Code: impl.ErrText})
			if impl.IsCanonical(text[:size]) {
				t.Errorf("IsCanonical(%q) is true", text[:size])
			}
			checkMarked(t, text[size:])
		}
	}
	for text := range marksOfTrees {
		check(text)
	}
	for text := range marksToRead {
		check(text)
	}
}

// aLongMark has all that may stand in a marked text.
const aLongMark = " <p:a xmlns:p = 'u' b=\"&#65;'\"\nxmlns='v' >x&lt;<b xmlns=''/>\xe2\x82\xac<p:c xml:lang='de'>y</p:c ></p:a > "

func TestMarkedTextsWithOneByteTurned(t *testing.T) {
	if impl.ParseXml(aLongMark).Code != impl.OK {
		t.Fatalf("%q is no marked text", aLongMark)
	}
	for at := range len(aLongMark) + 1 {
		for b := range 256 {
			checkMarked(t, aLongMark[:at]+string([]byte{byte(b)})+aLongMark[at:])
			if at < len(aLongMark) {
				checkMarked(t, aLongMark[:at]+string([]byte{byte(b)})+aLongMark[at+1:])
			}
		}
		for end := at; end <= len(aLongMark); end++ {
			checkMarked(t, aLongMark[:at]+aLongMark[end:])
			checkMarked(t, aLongMark[:end]+aLongMark[at:])
		}
	}
}

func TestPiecesOfMarkedTexts(t *testing.T) {
	eachRow([]string{"<", "/", ">", "a", ":", " ", "=", "'", "x"}, 5, func(text string) {
		checkMarked(t, text)
	})
	eachRow([]string{"<a>", "</a>", "<a/>", "<a xmlns='u'>", "<p:a xmlns:p='u'>", "</p:a>", "<p:a/>", " ", "x"}, 5, func(text string) {
		checkMarked(t, text)
	})
}

func TestPiecesOfTags(t *testing.T) {
	eachRow([]string{" ", "b", "=", "'1'", "\"", "xmlns", ":", "p", "/", "\n"}, 4, func(text string) {
		checkMarked(t, "<a"+text+"/>")
		checkMarked(t, "<a>x</a"+text+">")
	})
	eachRow([]string{" b='1'", " c=\"2\"", " xmlns=''", " xmlns='u'", " xmlns:p='u'", " xmlns:q='v'", " xml:lang='de'", " p:b=''", " xmlns:p=''", "b=''", " xmlns:xml='u'"}, 3, func(text string) {
		for _, with := range []string{"<a%/>", "<p:a%/>", "<q:a%><a/></q:a>", "<a xmlns='w' xmlns:p='w'><b%><p:a/><a/></b><p:a/><a/></a>"} {
			checkMarked(t, strings.Replace(with, "%", text, 1))
		}
	})
}

func TestEachByteAsABlank(t *testing.T) {
	for b := range 256 {
		blank := string([]byte{byte(b)})
		for with, may := range map[string]bool{
			"%<a/>": true, "<a/>%": true, "<a%/>": true, "<a%></a>": true, "<a></a%>": true, "<a%b='1'/>": true, "<a b%='1'/>": true, "<a b=%'1'/>": true, "<a b='1'%/>": true, "<a b='1'%c='1'/>": true,
			"<%a/>": false, "<a/%>": false, "<a><%/a>": false, "<a></%a>": false,
		} {
			text := strings.Replace(with, "%", blank, 1)
			if isBlank := b == 32 || b == 9 || b == 10; isBlank && may != (impl.ParseXml(text).Code == impl.OK) {
				t.Errorf("ParseXml(%q) = %+v", text, impl.ParseXml(text))
			}
			checkMarked(t, text)
		}
	}
}

func TestTreesAreReadBackFromTheirTexts(t *testing.T) {
	eachTree(func(items []impl.Item) {
		checkTree(t, items)
	})
	from := rand.New(rand.NewSource(8))
	for range 2000 {
		checkTree(t, spacedTree(from, 1+from.Intn(40)))
	}
}

// Each way in which the Spaces of up to five elements may turn.
func TestSpacesOfEachSmallTree(t *testing.T) {
	spaces := []string{"", "u", "v"}
	eachList(5, 0, 4, func(items []impl.Item) {
		if !standsAsATree(items) || slices.ContainsFunc(items, func(x impl.Item) bool { return x.Name == "" }) {
			return
		}
		ways := 1
		for range items {
			ways *= len(spaces)
		}
		for way := range ways {
			turned := slices.Clone(items)
			for i := range turned {
				turned[i].Space = spaces[way%len(spaces)]
				way /= len(spaces)
			}
			checkTree(t, turned)
		}
	})
}

// signsToWrite are signs that mean something, and some that do not.
var signsToWrite = []string{"&", "<", ">", "\"", "'", "\t", "\n", " ", "/", "=", ":", ";", "#", "x", "amp;", "]]>", "\xc3\xa4", "\xe2\x82\xac", "\xf0\x9f\x98\x80"}

func someText(from *rand.Rand, count int) string {
	text := ""
	for range count {
		if next := text + signsToWrite[from.Intn(len(signsToWrite))]; len(next) <= 60 {
			text = next
		}
	}
	return text
}

// spacedTree is a tree whose Spaces come again, and whose texts are of signs
// that mean something.
func spacedTree(from *rand.Rand, count int) []impl.Item {
	spaces := []string{"", "", "u", "v", someText(from, 10)}
	items := someTree(from, count, 6)
	for i := range items {
		if items[i].Name == "" {
			items[i].Text = "x" + someText(from, from.Intn(5))
			continue
		}
		items[i].Space = spaces[from.Intn(len(spaces))]
		for k := range items[i].Attrs {
			items[i].Attrs[k].Value = someText(from, from.Intn(4))
		}
	}
	return items
}

// A writer writes a tree in any way in which it may be read.
type writer struct {
	from *rand.Rand
	out  strings.Builder
}

func (w *writer) blanks(least int) string {
	blanks := ""
	for range max(least, w.from.Intn(9)-6) {
		blanks += []string{" ", "\t", "\n"}[w.from.Intn(3)]
	}
	return blanks
}

// written is text with any signs written otherwise, and with those that have to
// be.
func (w *writer) written(text string, must string) string {
	out := ""
	named := map[rune]string{'&': "&amp;", '<': "&lt;", '>': "&gt;", '"': "&quot;", '\'': "&apos;"}
	for _, sign := range text {
		if !strings.ContainsRune(must, sign) && w.from.Intn(8) > 0 {
			out += string(sign)
			continue
		}
		decimal, hex := strconv.Itoa(int(sign)), strconv.FormatInt(int64(sign), 16)
		switch name := named[sign]; {
		case name != "" && w.from.Intn(2) == 0:
			out += name
		case w.from.Intn(2) == 0:
			out += "&#" + strings.Repeat("0", w.from.Intn(8-len(decimal))) + decimal + ";"
		case w.from.Intn(2) == 0:
			out += "&#x" + strings.Repeat("0", w.from.Intn(7-len(hex))) + hex + ";"
		default:
			out += "&#x" + strings.ToUpper(hex) + ";"
		}
	}
	return out
}

func (w *writer) setting(name string, value string) string {
	quote := []string{"\"", "'"}[w.from.Intn(2)]
	return w.blanks(1) + name + w.blanks(0) + "=" + w.blanks(0) + quote + w.written(value, "&<\t\n"+quote) + quote
}

// tagOf chooses a prefix, or none, for an element, and what has to be set for
// it; it may set more. It tells the tag name and the settings.
func (w *writer) tagOf(x impl.Item, spaces map[string]string) (tag string, settings []string) {
	set := func(prefix, space string) {
		spaces[prefix] = space
		settings = append(settings, w.setting(strings.TrimSuffix("xmlns:"+prefix, ":"), space))
	}
	prefixes := []string{"p", "q", "lang", "xml-x"}
	prefix := ""
	if x.Space != "" && w.from.Intn(2) == 0 {
		prefix = prefixes[w.from.Intn(len(prefixes))]
		tag = prefix + ":"
	}
	if space, isSet := spaces[prefix]; !isSet || space != x.Space || w.from.Intn(5) == 0 {
		set(prefix, x.Space)
	}
	if other := prefixes[w.from.Intn(len(prefixes))]; other != prefix && w.from.Intn(4) == 0 {
		set(other, "space "+strconv.Itoa(w.from.Intn(3)))
	}
	if prefix != "" && w.from.Intn(4) == 0 {
		set("", []string{"", "u", "v"}[w.from.Intn(3)])
	}
	for _, a := range x.Attrs {
		settings = append(settings, w.setting(a.Name, a.Value))
	}
	w.from.Shuffle(len(settings), func(i, k int) { settings[i], settings[k] = settings[k], settings[i] })
	return tag + x.Name, settings
}

// element writes that at the place at and what is in it, and tells the place
// behind.
func (w *writer) element(items []impl.Item, at int, around map[string]string) int {
	spaces := maps.Clone(around)
	tag, settings := w.tagOf(items[at], spaces)
	w.out.WriteString("<" + tag + strings.Join(settings, "") + w.blanks(0))
	depth := items[at].Depth
	at++
	if (at == len(items) || items[at].Depth <= depth) && w.from.Intn(2) == 0 {
		w.out.WriteString("/>")
		return at
	}
	w.out.WriteString(">")
	for at < len(items) && items[at].Depth > depth {
		if items[at].Name == "" {
			w.out.WriteString(w.written(items[at].Text, "&<"))
			at++
			continue
		}
		at = w.element(items, at, spaces)
	}
	w.out.WriteString("</" + tag + w.blanks(0) + ">")
	return at
}

func TestTreesAreReadHoweverTheyAreWritten(t *testing.T) {
	from := rand.New(rand.NewSource(9))
	read := 0
	for range 5000 {
		items := spacedTree(from, 1+from.Intn(12))
		w := writer{from: from}
		w.out.WriteString(w.blanks(0))
		w.element(items, 0, map[string]string{"": ""})
		w.out.WriteString(w.blanks(0))
		text := w.out.String()
		want := impl.TreeResult{Items: items}
		if len(text) > 3000 {
			want = impl.TreeResult{Code: impl.ErrMany}
		} else {
			read++
		}
		checkParse(t, text, want)
		if canonical := text == printOtherwise(items); impl.IsCanonical(text) != canonical {
			t.Errorf("IsCanonical(%q) is %v", text, !canonical)
		}
		checkMarked(t, text)
	}
	if read < 4000 {
		t.Errorf("only %d texts have been read", read)
	}
}

// What is read may be too long to be read again, as it is written in one way.
func TestWhatIsReadMayBeTooLongInItsOneWay(t *testing.T) {
	text := "<a>"
	for range 8 {
		text += "<b"
		for _, name := range []string{"c", "d", "e", "f", "g"} {
			text += " " + name + "='" + strings.Repeat("\"", 60) + "'"
		}
		text += "/>"
	}
	text += "</a>"
	got := impl.ParseXml(text)
	if got.Code != impl.OK || len(got.Items) != 9 || impl.IsCanonical(text) {
		t.Fatalf("ParseXml(%q) = %+v", text, got)
	}
	printed := impl.PrintXml(got.Items)
	if printed.Code != impl.OK || len(printed.Text) <= 3000 || impl.ParseXml(printed.Text).Code != impl.ErrMany || impl.IsCanonical(printed.Text) {
		t.Errorf("PrintXml has %d bytes, and is read as %+v", len(printed.Text), impl.ParseXml(printed.Text))
	}
}

func TestAnswersOfChapter5AreNewMemory(t *testing.T) {
	const text = "<a xmlns='u' c='3' b='2'><b d='4' xmlns:p='w'/>x<p:b xmlns:p='v' e='5' f='6'/></a>"
	first := impl.ParseXml(text)
	before := copyOf(first.Items)
	second := impl.ParseXml(text)
	fillItems(second.Items, "?")
	if !sameLists(first.Items, before) {
		t.Errorf("what is written into one answer is in another one: %+v", first.Items)
	}
	if third := impl.ParseXml(text); !sameLists(third.Items, before) {
		t.Errorf("what is written into one answer is in a later one: %+v", third.Items)
	}
	fill(first.Items[0].Attrs, impl.Attr{Name: "!", Value: "!"})
	if !sameLists(first.Items[1:], before[1:]) {
		t.Errorf("two lists of one answer share memory: %+v", first.Items)
	}
	printed := impl.PrintXml(before)
	fillItems(before, "?")
	if printed.Text != "<a xmlns=\"u\" b=\"2\" c=\"3\"><b d=\"4\"/>x<b xmlns=\"v\" e=\"5\" f=\"6\"/></a>" {
		t.Errorf("a text turns with the items that it is of: %q", printed.Text)
	}
}

// What stands behind the end of one list of an answer may not be another one.
func TestListsOfAParsedTreeDoNotRunIntoOneAnother(t *testing.T) {
	items := impl.ParseXml("<a b='1'><b c='2' d='3'/><b e='4' f='5' g='6'/></a>").Items
	before := copyOf(items)
	for i := range items {
		fill(items[i].Attrs[len(items[i].Attrs):], impl.Attr{Name: "room"})
		items[i].Attrs = append(items[i].Attrs, impl.Attr{Name: "more"})
	}
	for i := range items {
		if !slices.Equal(items[i].Attrs[:len(before[i].Attrs)], before[i].Attrs) {
			t.Errorf("%+v, want %+v", items[i].Attrs, before[i].Attrs)
		}
	}
}

func TestChapter5ChangesNoArgument(t *testing.T) {
	var all [][]impl.Item
	for _, items := range treesToKnow {
		all = append(all, withRoom(items))
	}
	for _, items := range marksOfTrees {
		all = append(all, withRoom(items))
	}
	for _, x := range noTrees {
		all = append(all, withRoom(x.value[:min(len(x.value), 60)]))
	}
	for _, items := range all {
		before := allOf(items)
		impl.PrintXml(items)
		if !sameLists(allOf(items), before) {
			t.Errorf("%+v has been changed", items)
		}
	}
	for _, text := range noMarks {
		before := bytes.Clone([]byte(text))
		impl.ParseXml(text)
		impl.IsCanonical(text)
		if text != string(before) {
			t.Errorf("%q has been changed", before)
		}
	}
}

// What is set in one text must not be set in a later one, nor in one that is
// read at the same time, also where the reading of it has ended early.
func TestAnswersOfChapter5HangOnArgumentsAlone(t *testing.T) {
	items := []impl.Item{{Space: "u", Name: "a"}, {Depth: 1, Name: "b"}, {Depth: 1, Text: "x"}}
	var all sync.WaitGroup
	for range 8 {
		all.Go(func() {
			for range 200 {
				if impl.ParseXml("<a xmlns='w' xmlns:p='w'><p:b>").Code != impl.ErrText || impl.ParseXml("<p:a/>").Code != impl.ErrText || impl.ParseXml(nested(8, "")).Code != impl.ErrRange || impl.PrintXml(nil).Code != impl.ErrMany || impl.IsCanonical("<a></a>") {
					t.Error("a fault is told otherwise at a later call")
				}
				read := impl.ParseXml("<p:a xmlns:p='u'><b/>x</p:a>")
				if read.Code != impl.OK || !sameLists(read.Items, items) || impl.PrintXml(items).Text != "<a xmlns=\"u\"><b xmlns=\"\"/>x</a>" || !impl.IsCanonical("<a xmlns=\"u\"><b xmlns=\"\"/>x</a>") {
					t.Error("an answer is another one at a later call")
				}
			}
		})
	}
	all.Wait()
}

func FuzzParseXml(f *testing.F) {
	for text := range marksOfTrees {
		f.Add(text)
	}
	for text := range marksToRead {
		f.Add(text)
	}
	for _, text := range noMarks {
		f.Add(text)
	}
	f.Add(aLongMark)
	f.Fuzz(func(t *testing.T, text string) {
		checkMarked(t, text)
	})
}

func FuzzPrintXml(f *testing.F) {
	for _, seed := range []string{"", "\x01\x00\x00", "\x01\x00\x00\x02\x00\x00", "\x01\x00\x00\x82\x00\x00\x02\x00\x00", "\x01\x00\xfa\x02\x00\xfb\x83\xf1\x00"} {
		f.Add([]byte(seed))
	}
	f.Fuzz(func(t *testing.T, data []byte) {
		items := itemsIn(data)
		if fault := impl.TreeFault(items); fault != impl.OK {
			if got := impl.PrintXml(items); got != (impl.TextResult{Code: fault}) {
				t.Errorf("PrintXml(%+v) = %+v, want the code %d alone", items, got, fault)
			}
			return
		}
		checkTree(t, items)
	})
}
