package tests

import (
	"encoding/hex"
	"fmt"
	"math/rand"
	"regexp"
	"slices"
	"strings"
	"sync"
	"testing"

	"loop.example/g00795/impl"
)

// wordsOtherwise goes byte by byte.
func wordsOtherwise(line string) impl.TextsResult {
	if len(line) > 3000 {
		return impl.TextsResult{Code: impl.ErrMany}
	}
	var words []string
	inWord := false
	for i := range len(line) {
		isPart := line[i] != 32
		if isPart && !inWord {
			words = append(words, "")
		}
		if isPart {
			words[len(words)-1] += line[i : i+1]
		}
		inWord = isPart
	}
	return impl.TextsResult{Words: words}
}

var firstWordAndRest = regexp.MustCompile(`^(?s: *[^ ]+(?: (.*))?)$`)

func restOtherwise(line string) impl.TextResult {
	if len(line) > 3000 {
		return impl.TextResult{Code: impl.ErrMany}
	}
	met := firstWordAndRest.FindStringSubmatch(line)
	if met == nil {
		return impl.TextResult{Code: impl.ErrNone}
	}
	return impl.TextResult{Text: met[1]}
}

func hexOtherwise(data []byte) impl.TextResult {
	if len(data) > 3000 {
		return impl.TextResult{Code: impl.ErrMany}
	}
	return impl.TextResult{Text: hex.EncodeToString(data)}
}

var numberLine = regexp.MustCompile(`^(?s: *(kind|show|priority) +([^ ]+) *)$`)
var nameLine = regexp.MustCompile(`^(?s: *(from|to)(?: +([^ ]+))? *)$`)
var restLine = regexp.MustCompile(`^(?s: *(status|add)(?: (.*))?)$`)
var wordLine = regexp.MustCompile(`^(?s: *(clear|xml|bin|pidf|fits) *)$`)

// turnedOtherwise tells what becomes of p by a line that turns it, and whether
// it is one.
func turnedOtherwise(p impl.Presence, line string) (turned impl.Presence, code int64, ok bool) {
	if met := numberLine.FindStringSubmatch(line); met != nil {
		n := numberOtherwise(met[2])
		*map[string]*int64{"kind": &p.Kind, "show": &p.Show, "priority": &p.Priority}[met[1]] = n.Value
		return p, n.Code, n.Code == impl.OK
	}
	if met := nameLine.FindStringSubmatch(line); met != nil {
		*map[string]*string{"from": &p.From, "to": &p.To}[met[1]] = met[2]
		return p, impl.OK, true
	}
	if met := restLine.FindStringSubmatch(line); met != nil {
		if met[1] == "status" {
			p.Status = met[2]
			return p, impl.OK, true
		}
		tree := parseOtherwise(met[2])
		p.More = append(copyOf(p.More), tree.Items...)
		return p, tree.Code, true
	}
	if strings.Trim(line, " ") == "clear" {
		p.More = nil
		return p, impl.OK, true
	}
	return p, impl.ErrText, false
}

// saidOtherwise is what a line asks of p, if it is one that asks.
func saidOtherwise(p impl.Presence, line string) impl.TextResult {
	met := wordLine.FindStringSubmatch(line)
	if met == nil {
		return impl.TextResult{Code: impl.ErrText}
	}
	if met[1] == "fits" {
		shared := projectionOtherwise(p)
		return impl.TextResult{Text: map[bool]string{true: "yes", false: "no"}[shared.Code == impl.OK && asOne(shared.Presence, p)]}
	}
	out := encodeOtherwise(map[string]int64{"xml": 1, "bin": 2, "pidf": 3}[met[1]], p)
	if met[1] == "bin" {
		return impl.TextResult{Code: out.Code, Text: hex.EncodeToString(out.Bytes)}
	}
	return impl.TextResult{Code: out.Code, Text: string(out.Bytes)}
}

// stepOtherwise asks by the forms of whole lines what StepScript asks word by
// word. It rests on the second ones of the chapters ahead.
func stepOtherwise(p impl.Presence, line string) impl.ScriptResult {
	code := firstOf(presenceFaultOtherwise(p), codeIf(impl.ErrText, strings.Contains(line, "\n")), codeIf(impl.ErrMany, len(line) > 3000))
	if code != impl.OK {
		return impl.ScriptResult{Code: code}
	}
	if strings.Trim(line, " ") == "" {
		return impl.ScriptResult{Presence: p}
	}
	if turned, code, ok := turnedOtherwise(p, line); ok {
		if code := firstOf(code, presenceFaultOtherwise(turned)); code != impl.OK {
			return impl.ScriptResult{Code: code}
		}
		return impl.ScriptResult{Presence: turned, Said: "ok"}
	}
	said := saidOtherwise(p, line)
	if said.Code != impl.OK {
		return impl.ScriptResult{Code: said.Code}
	}
	return impl.ScriptResult{Presence: p, Said: said.Text}
}

// linesOtherwise are the lines of text without their ends.
func linesOtherwise(text string) []string {
	var lines []string
	for line := range strings.Lines(text) {
		lines = append(lines, strings.TrimSuffix(line, "\n"))
	}
	return lines
}

// runBy does line by line what a step tells.
func runBy(step func(p impl.Presence, line string) impl.ScriptResult, p impl.Presence, text string) impl.ScriptResult {
	lines := linesOtherwise(text)
	if code := firstOf(presenceFaultOtherwise(p), codeIf(impl.ErrMany, len(text) > 3000 || len(lines) > 40)); code != impl.OK {
		return impl.ScriptResult{Code: code}
	}
	said := ""
	for _, line := range lines {
		got := step(p, line)
		if got.Code != impl.OK {
			said += fmt.Sprintf("! %d\n", got.Code)
			continue
		}
		p = got.Presence
		if got.Said != "" {
			said += got.Said + "\n"
		}
	}
	return impl.ScriptResult{Presence: p, Said: said}
}

func sameScripts(a, b impl.ScriptResult) bool {
	return a.Code == b.Code && a.Said == b.Said && asOne(a.Presence, b.Presence)
}

// checkLine is the promise of any line: its words, and what is behind the first
// one.
func checkLine(t *testing.T, line string) {
	t.Helper()
	want := wordsOtherwise(line)
	if got := impl.WordsOf(line); got.Code != want.Code || !slices.Equal(got.Words, want.Words) {
		t.Errorf("WordsOf(%.100q) = %.300q with the code %d, want %.300q with %d", line, got.Words, got.Code, want.Words, want.Code)
	}
	rest := restOtherwise(line)
	if got := impl.RestOf(line); got != rest {
		t.Errorf("RestOf(%.100q) = %.300q with the code %d, want %.300q with %d", line, got.Text, got.Code, rest.Text, rest.Code)
	}
	if rest.Code == impl.OK {
		// Of the line only blanks about the first word are not told.
		first := strings.TrimLeft(line, " ")
		if joined := want.Words[0] + " " + rest.Text; first != joined && first+" " != joined {
			t.Errorf("the first word and the rest are %.300q, which is not %.100q", joined, line)
		}
	}
}

func checkHex(t *testing.T, data []byte) {
	t.Helper()
	want := hexOtherwise(data)
	got := impl.HexText(data)
	if got != want {
		t.Errorf("HexText of %d bytes, % .30x, is %.100q with the code %d, want %.100q with %d", len(data), data, got.Text, got.Code, want.Text, want.Code)
	}
	if back, err := hex.DecodeString(got.Text); got.Code == impl.OK && (err != nil || string(back) != string(data)) {
		t.Errorf("HexText(% .30x) is read back as % .30x", data, back)
	}
}

// checkStep is the promise of any line and any presence.
func checkStep(t *testing.T, p impl.Presence, line string) impl.ScriptResult {
	t.Helper()
	want := stepOtherwise(p, line)
	if got := impl.StepScript(p, line); !sameScripts(got, want) {
		t.Errorf("StepScript(%+v, %.200q) = %+v, want %+v", p, line, got, want)
	}
	return want
}

// checkStepIs is for lines of which it is known what they do.
func checkStepIs(t *testing.T, name string, p impl.Presence, line string, want impl.ScriptResult) {
	t.Helper()
	if got := impl.StepScript(p, line); !sameScripts(got, want) {
		t.Errorf("%s: StepScript(%+v, %.200q) = %+v, want %+v", name, p, line, got, want)
	}
	if got := stepOtherwise(p, line); !sameScripts(got, want) {
		t.Errorf("%s: the other one tells of %.200q %+v, want %+v", name, line, got, want)
	}
}

func checkNoStep(t *testing.T, name string, p impl.Presence, line string, code int64) {
	t.Helper()
	checkStepIs(t, name, p, line, impl.ScriptResult{Code: code})
}

// checkRun is the promise of any text and any presence: it is done as the other
// one does it, and as StepScript does it line by line.
func checkRun(t *testing.T, p impl.Presence, text string) impl.ScriptResult {
	t.Helper()
	got := impl.RunScript(p, text)
	if want := runBy(stepOtherwise, p, text); !sameScripts(got, want) {
		t.Errorf("RunScript(%+v, %.300q) = %+v, want %+v", p, text, got, want)
	}
	if want := runBy(impl.StepScript, p, text); !sameScripts(got, want) {
		t.Errorf("RunScript(%+v, %.300q) = %+v, and line by line %+v", p, text, got, want)
	}
	return got
}

func checkRunIs(t *testing.T, name string, p impl.Presence, text string, want impl.ScriptResult) {
	t.Helper()
	if got := checkRun(t, p, text); !sameScripts(got, want) {
		t.Errorf("%s: RunScript(%+v, %.300q) = %+v, want %+v", name, p, text, got, want)
	}
}

// fullPresence has something in each field.
func fullPresence() impl.Presence {
	return impl.Presence{From: "a@b", To: "c@d", Show: 4, Status: "s", Priority: -5, More: []impl.Item{{Space: "u", Name: "x", Attrs: attrsOf("a", "1")}, {Depth: 1, Text: "1"}, {Name: "y"}}}
}

// fullWith is the full one with one thing turned.
func fullWith(turn func(p *impl.Presence)) impl.Presence {
	p := fullPresence()
	turn(&p)
	return p
}

// turningLines are lines that turn the full presence, and what becomes of it.
var turningLines = []struct {
	name    string
	line    string
	becomes impl.Presence
}{
	{"the Kind that it has", "kind 0", fullPresence()},
	{"a Show", "show 1", fullWith(func(p *impl.Presence) { p.Show = 1 })},
	{"the last Show", "show 4", fullPresence()},
	{"no Show", "show 0", fullWith(func(p *impl.Presence) { p.Show = 0 })},
	{"a Priority", "priority 7", fullWith(func(p *impl.Presence) { p.Priority = 7 })},
	{"the Priority 0", "priority 0", fullWith(func(p *impl.Presence) { p.Priority = 0 })},
	{"the least Priority", "priority -128", fullWith(func(p *impl.Presence) { p.Priority = -128 })},
	{"the greatest Priority", "priority 127", fullWith(func(p *impl.Presence) { p.Priority = 127 })},
	{"a number with blanks about it", "  priority   7  ", fullWith(func(p *impl.Presence) { p.Priority = 7 })},
	{"a From", "from e@f", fullWith(func(p *impl.Presence) { p.From = "e@f" })},
	{"a From of 60 bytes", "from " + strings.Repeat("a", 60), fullWith(func(p *impl.Presence) { p.From = strings.Repeat("a", 60) })},
	{"a From with a tab", "from a\tb", fullWith(func(p *impl.Presence) { p.From = "a\tb" })},
	{"a From that is a line's word", "from clear", fullWith(func(p *impl.Presence) { p.From = "clear" })},
	{"no From", "from", fullWith(func(p *impl.Presence) { p.From = "" })},
	{"no From, but blanks", " from  ", fullWith(func(p *impl.Presence) { p.From = "" })},
	{"a To", "to e@f", fullWith(func(p *impl.Presence) { p.To = "e@f" })},
	{"a To with blanks about it", "   to  \xe2\x82\xac ", fullWith(func(p *impl.Presence) { p.To = "\xe2\x82\xac" })},
	{"a To that is a number", "to 0", fullWith(func(p *impl.Presence) { p.To = "0" })},
	{"no To", "to", fullWith(func(p *impl.Presence) { p.To = "" })},
	{"no To, but a blank", "to ", fullWith(func(p *impl.Presence) { p.To = "" })},
	{"a Status", "status gone", fullWith(func(p *impl.Presence) { p.Status = "gone" })},
	{"a Status of words", "status gone fishing", fullWith(func(p *impl.Presence) { p.Status = "gone fishing" })},
	{"a Status of words with two blanks", "status gone  fishing", fullWith(func(p *impl.Presence) { p.Status = "gone  fishing" })},
	{"a Status behind two blanks", "status  gone", fullWith(func(p *impl.Presence) { p.Status = " gone" })},
	{"a Status behind three blanks", "status   gone", fullWith(func(p *impl.Presence) { p.Status = "  gone" })},
	{"a Status with blanks behind", "status gone  ", fullWith(func(p *impl.Presence) { p.Status = "gone  " })},
	{"a Status with blanks ahead of the line", "   status gone", fullWith(func(p *impl.Presence) { p.Status = "gone" })},
	{"a Status of a blank", "status  ", fullWith(func(p *impl.Presence) { p.Status = " " })},
	{"a Status of 60 blanks", "status " + strings.Repeat(" ", 60), fullWith(func(p *impl.Presence) { p.Status = strings.Repeat(" ", 60) })},
	{"a Status of 60 bytes", "status " + strings.Repeat("x", 60), fullWith(func(p *impl.Presence) { p.Status = strings.Repeat("x", 60) })},
	{"a Status with a tab", "status \tgone\t", fullWith(func(p *impl.Presence) { p.Status = "\tgone\t" })},
	{"a Status that is a line", "status status s", fullWith(func(p *impl.Presence) { p.Status = "status s" })},
	{"a Status of signs", "status <x>&amp;", fullWith(func(p *impl.Presence) { p.Status = "<x>&amp;" })},
	{"no Status", "status", fullWith(func(p *impl.Presence) { p.Status = "" })},
	{"no Status, but a blank", " status ", fullWith(func(p *impl.Presence) { p.Status = "" })},
	{"a tree", "add <z/>", fullWith(func(p *impl.Presence) { p.More = append(p.More, impl.Item{Name: "z"}) })},
	{"a tree like the last one", "add <y/>", fullWith(func(p *impl.Presence) { p.More = append(p.More, impl.Item{Name: "y"}) })},
	{"a tree with blanks about it", "  add   \t<z xmlns='v' b='2'  c = '3' >t</z>\t  ", fullWith(func(p *impl.Presence) {
		p.More = append(p.More, impl.Item{Space: "v", Name: "z", Attrs: attrsOf("b", "2", "c", "3")}, impl.Item{Depth: 1, Text: "t"})
	})},
	{"a tree with a text of blanks", "add <z>  </z>", fullWith(func(p *impl.Presence) { p.More = append(p.More, impl.Item{Name: "z"}, impl.Item{Depth: 1, Text: "  "}) })},
	{"a tree with prefixes", "add <p:z xmlns:p='v'><y/></p:z>", fullWith(func(p *impl.Presence) {
		p.More = append(p.More, impl.Item{Space: "v", Name: "z"}, impl.Item{Depth: 1, Name: "y"})
	})},
	{"a tree with the ClientSpace further in", "add <z><show xmlns='jabber:client'/></z>", fullWith(func(p *impl.Presence) {
		p.More = append(p.More, impl.Item{Name: "z"}, impl.Item{Depth: 1, Space: "jabber:client", Name: "show"})
	})},
	{"a tree as deep as may be", "add " + nested(5, "<a/>"), fullWith(func(p *impl.Presence) { p.More = append(p.More, chainOf(5)...) })},
	{"as many items as may be", "add <a>" + strings.Repeat("<b/>", 16) + "</a>", fullWith(func(p *impl.Presence) { p.More = append(p.More, rowOf(17)...) })},
	{"no More", "clear", fullWith(func(p *impl.Presence) { p.More = nil })},
	{"no More, with blanks", "  clear ", fullWith(func(p *impl.Presence) { p.More = nil })},
}

// linesThatAreNone are lines that are none of the words that are known.
var linesThatAreNone = []string{
	"foo", "0", "1 2", "ok", "yes", "! 5", "a", "?", "kin", "kinds", "Kind", "KIND 1", "Kind 1", "kind1", "kind=1", "kinds 1", "k ind 1", "shows 1", "sho 1", "Show 1", "prio 1", "Priority 1", "priorit 1",
	"form a", "From a", "FROM", "froma", "fro", "tos a", "To", "t", "too", "statu", "statuss", "Status", "STATUS s", "statuss s", "stat us", "status\ts", "\tstatus s", "status\u00a0s",
	"adds <z/>", "Add <z/>", "ad", "add<z/>", "add\t<z/>", "ADD <z/>", "clea", "clears", "Clear", "xm", "xmls", "Xml", "XML", "bi", "bins", "Bin", "pid", "pidfs", "Pidf", "PIDF", "fit", "fitss", "Fits",
	"kind", "kind ", "show", " show  ", "priority", "kind 1 2", "kind 0 0", "show 1 1", "priority 1 2", "priority 1 x", "kind 0 kind", "kind kind", "show away", "priority x", "kind available",
	"kind 00", "kind 01", "kind -0", "kind +0", "kind +1", "kind 1000", "kind -1000", "kind 0x1", "kind 1.0", "kind 1_0", "kind 0\t", "kind \t0", "kind\t0", "show 01", "show -", "priority 007", "priority - 7", "priority -07", "priority +7", "priority --7", "priority 1e1",
	"priority 9223372036854775807", "priority 9223372036854775808", "priority 18446744073709551616", "priority 4294967297", "priority -9223372036854775809", "kind 4294967296", "kind \xd9\xa1",
	"from a b", "from a  b", " from a b ", "to a b", "to a to", "from from a", "from to a", "from a to b",
	"clear x", "clear clear", "clear 0", "clear <y/>", "xml xml", "xml 1", "xml <z/>", "bin 0", "bin bin", "pidf x", "pidf pidf", "fits x", "fits fits", "fits yes", "xml bin", "xml pidf fits",
	"clear\t", "xml\t", "\txml", "bin\r", "pidf\x00", "fits\u00a0", "\xef\xbb\xbfxml", "\xff", "\x00", "\r", "\t", " \t ", "\v", "\u00a0", "\u2003", "\u3000",
	"# a remark",
}

func TestConstantsOfChapter11(t *testing.T) {
	if impl.MaxScript != 3000 || impl.MaxLines != 40 {
		t.Error("a bound of a script is another one")
	}
}

func TestWordsAndRestsToKnow(t *testing.T) {
	for _, x := range []struct {
		line  string
		words []string
		rest  impl.TextResult
	}{
		{"", nil, impl.TextResult{Code: impl.ErrNone}},
		{" ", nil, impl.TextResult{Code: impl.ErrNone}},
		{"     ", nil, impl.TextResult{Code: impl.ErrNone}},
		{"a", []string{"a"}, impl.TextResult{}},
		{" a", []string{"a"}, impl.TextResult{}},
		{"a ", []string{"a"}, impl.TextResult{}},
		{"a  ", []string{"a"}, impl.TextResult{Text: " "}},
		{"a   ", []string{"a"}, impl.TextResult{Text: "  "}},
		{"a b", []string{"a", "b"}, impl.TextResult{Text: "b"}},
		{"a  b", []string{"a", "b"}, impl.TextResult{Text: " b"}},
		{"  a  b  ", []string{"a", "b"}, impl.TextResult{Text: " b  "}},
		{"a a a", []string{"a", "a", "a"}, impl.TextResult{Text: "a a"}},
		{" status a  b ", []string{"status", "a", "b"}, impl.TextResult{Text: "a  b "}},
		{"a\tb", []string{"a\tb"}, impl.TextResult{}},
		{"\ta b", []string{"\ta", "b"}, impl.TextResult{Text: "b"}},
		{"a \t b", []string{"a", "\t", "b"}, impl.TextResult{Text: "\t b"}},
		{"\t", []string{"\t"}, impl.TextResult{}},
		{"a\nb c", []string{"a\nb", "c"}, impl.TextResult{Text: "c"}},
		{"\n", []string{"\n"}, impl.TextResult{}},
		{" \n ", []string{"\n"}, impl.TextResult{}},
		{"a\r\v\f\x00b", []string{"a\r\v\f\x00b"}, impl.TextResult{}},
		{"a\u00a0b\u2003c\u3000d", []string{"a\u00a0b\u2003c\u3000d"}, impl.TextResult{}},
		{"\xff \xe2\x82 \x80", []string{"\xff", "\xe2\x82", "\x80"}, impl.TextResult{Text: "\xe2\x82 \x80"}},
		{"\xe2 \x82\xac", []string{"\xe2", "\x82\xac"}, impl.TextResult{Text: "\x82\xac"}},
		{"\xc2\xa0 \xc2", []string{"\xc2\xa0", "\xc2"}, impl.TextResult{Text: "\xc2"}},
		{strings.Repeat("a", 3000), []string{strings.Repeat("a", 3000)}, impl.TextResult{}},
		{strings.Repeat(" ", 3000), nil, impl.TextResult{Code: impl.ErrNone}},
		{strings.Repeat("a ", 1500), slices.Repeat([]string{"a"}, 1500), impl.TextResult{Text: strings.Repeat("a ", 1499)}},
		{"a" + strings.Repeat(" ", 2999), []string{"a"}, impl.TextResult{Text: strings.Repeat(" ", 2998)}},
		{strings.Repeat(" ", 2999) + "a", []string{"a"}, impl.TextResult{}},
	} {
		if got := impl.WordsOf(x.line); got.Code != impl.OK || !slices.Equal(got.Words, x.words) {
			t.Errorf("WordsOf(%.100q) = %.300q with the code %d, want %.300q", x.line, got.Words, got.Code, x.words)
		}
		if got := impl.RestOf(x.line); got != x.rest {
			t.Errorf("RestOf(%.100q) = %.300q with the code %d, want %.300q with %d", x.line, got.Text, got.Code, x.rest.Text, x.rest.Code)
		}
		checkLine(t, x.line)
	}
}

func TestWordsOfLongLines(t *testing.T) {
	for _, piece := range []string{"a", " ", "a ", " a", "ab  ", "\t", "\n", "\xff", "\x00", "\xe2\x82\xac"} {
		long := strings.Repeat(piece, 3001)
		for _, size := range []int{2998, 2999, 3000} {
			if got := impl.WordsOf(long[:size]); got.Code != impl.OK {
				t.Errorf("WordsOf of %d bytes has the code %d", size, got.Code)
			}
			checkLine(t, long[:size])
		}
		for _, line := range []string{long[:3001], long, strings.Repeat(long, 30)} {
			if got := impl.WordsOf(line); got.Code != impl.ErrMany || len(got.Words) != 0 {
				t.Errorf("WordsOf of %d bytes is %.300q with the code %d, want ErrMany alone", len(line), got.Words, got.Code)
			}
			if got := impl.RestOf(line); (got != impl.TextResult{Code: impl.ErrMany}) {
				t.Errorf("RestOf of %d bytes is %.300q with the code %d, want ErrMany alone", len(line), got.Text, got.Code)
			}
			checkLine(t, line)
		}
	}
}

func TestWordsOfEachSmallLine(t *testing.T) {
	eachRow([]string{" ", "a", "b", "\t", "\n", "\xff", "\xc2\xa0"}, 6, func(line string) {
		checkLine(t, line)
	})
	for b := range 256 {
		sign := string([]byte{byte(b)})
		for _, line := range []string{sign, sign + sign, "a" + sign + "b", sign + " a", "a " + sign, "a" + sign, sign + "a", " " + sign + " ", "a " + sign + " b", "a" + sign + " b", "a " + sign + "b"} {
			checkLine(t, line)
			if got := len(impl.WordsOf("a" + sign + "b").Words); (got == 2) != (b == 32) {
				t.Errorf("the byte %d between makes %d words", b, got)
			}
		}
	}
}

func TestHexText(t *testing.T) {
	for _, x := range []struct {
		data []byte
		text string
	}{
		{nil, ""}, {[]byte{}, ""}, {[]byte{0}, "00"}, {[]byte{1}, "01"}, {[]byte{9}, "09"}, {[]byte{10}, "0a"}, {[]byte{15}, "0f"}, {[]byte{16}, "10"}, {[]byte{159}, "9f"}, {[]byte{160}, "a0"}, {[]byte{255}, "ff"},
		{[]byte{10, 255}, "0aff"}, {[]byte{255, 10}, "ff0a"}, {[]byte{0, 0, 0}, "000000"}, {[]byte{1, 35, 69, 103, 137, 171, 205, 239}, "0123456789abcdef"}, {[]byte("a\n"), "610a"},
	} {
		if got := impl.HexText(x.data); (got != impl.TextResult{Text: x.text}) {
			t.Errorf("HexText(%v) = %+v, want %q", x.data, got, x.text)
		}
		checkHex(t, x.data)
	}
	for a := range 256 {
		checkHex(t, []byte{byte(a)})
		for b := range 256 {
			checkHex(t, []byte{byte(a), byte(b)})
		}
	}
	checkHex(t, everyByte())
	met := map[string]bool{}
	for b := range 256 {
		met[impl.HexText([]byte{byte(b)}).Text] = true
	}
	if len(met) != 256 {
		t.Errorf("256 bytes have %d texts", len(met))
	}
}

func TestHexTextOfEachSize(t *testing.T) {
	from := rand.New(rand.NewSource(1101))
	for _, size := range []int{100, 2998, 2999, 3000} {
		data := make([]byte, size)
		from.Read(data)
		if got := impl.HexText(data); got.Code != impl.OK || len(got.Text) != 2*size {
			t.Errorf("HexText of %d bytes has the code %d and %d bytes", size, got.Code, len(got.Text))
		}
		checkHex(t, data)
	}
	for _, size := range []int{3001, 3002, 1 << 20} {
		if got := impl.HexText(make([]byte, size)); (got != impl.TextResult{Code: impl.ErrMany}) {
			t.Errorf("HexText of %d bytes = %.100q with the code %d, want ErrMany alone", size, got.Text, got.Code)
		}
	}
}

func TestLinesThatTurnAPresence(t *testing.T) {
	for _, x := range turningLines {
		checkStepIs(t, x.name, fullPresence(), x.line, impl.ScriptResult{Presence: x.becomes, Said: "ok"})
		for _, said := range []struct{ text, report string }{{x.line, "ok\n"}, {x.line + "\n", "ok\n"}, {"\n" + x.line + "\n\n", "ok\n"}, {"foo\n" + x.line, "! 5\nok\n"}} {
			checkRunIs(t, x.name, fullPresence(), said.text, impl.ScriptResult{Presence: x.becomes, Said: said.report})
		}
	}
	for name, line := range map[string]string{"nothing": "", "a blank": " ", "blanks": "     ", "3000 blanks": strings.Repeat(" ", 3000)} {
		checkStepIs(t, name, fullPresence(), line, impl.ScriptResult{Presence: fullPresence()})
		checkStepIs(t, name, impl.Presence{}, line, impl.ScriptResult{})
		checkRunIs(t, name, fullPresence(), line, impl.ScriptResult{Presence: fullPresence()})
	}
}

func TestLinesThatAreNone(t *testing.T) {
	few := []impl.Presence{{}, fullPresence(), {Kind: 6}, {From: "a@b"}}
	for _, line := range linesThatAreNone {
		for _, p := range few {
			checkNoStep(t, "none", p, line, impl.ErrText)
			checkNoStep(t, "none, with blanks", p, "  "+line+"  ", impl.ErrText)
			checkRunIs(t, "none", p, line, impl.ScriptResult{Presence: p, Said: "! 5\n"})
		}
	}
}

// A line with one byte turned, put in or taken out is one only if it still has
// the form of one.
func TestLinesWithOneByteTurned(t *testing.T) {
	for _, line := range []string{"kind 0", "show 1", "priority -7", "from e@f", "to e@f", "from", "to", "status gone", "status", "add <z/>", "clear", "xml", "bin", "pidf", "fits"} {
		for at := range len(line) + 1 {
			checkStep(t, fullPresence(), line[:at])
			checkStep(t, fullPresence(), line[at:])
			for b := range 256 {
				sign := string([]byte{byte(b)})
				checkStep(t, fullPresence(), line[:at]+sign+line[at:])
				if at < len(line) {
					checkStep(t, fullPresence(), line[:at]+sign+line[at+1:])
				}
			}
		}
	}
}

// lineStarts are first words, some of them none, and with too little or too much
// behind them.
var lineStarts = []string{"kind", "show", "priority", "from", "to", "status", "add", "clear", "xml", "bin", "pidf", "fits", "foo", "Kind"}

func TestPiecesOfLines(t *testing.T) {
	presences := []impl.Presence{{}, fullPresence(), {Kind: 1, From: "a"}, {Kind: 6, To: "b"}}
	for _, first := range lineStarts {
		eachRow([]string{" ", "0", "1", "-", "a", "<z/>", "xml", "\t"}, 4, func(rest string) {
			for _, p := range presences {
				checkStep(t, p, first+rest)
			}
		})
	}
	eachRow(append([]string{" ", "1", "<z/>"}, lineStarts...), 3, func(line string) {
		checkStep(t, fullPresence(), line)
	})
}

func TestNumbersInLines(t *testing.T) {
	presences := []impl.Presence{{}, {From: "a", Show: 2}, {From: "a", Priority: 1}, {Kind: 1, Status: "s"}, {Kind: 6}}
	for n := -1100; n <= 1100; n++ {
		for _, word := range []string{"kind", "show", "priority"} {
			for _, p := range presences {
				checkStep(t, p, fmt.Sprint(word, " ", n))
			}
		}
	}
	for n := range 7 {
		checkStepIs(t, "a Kind", impl.Presence{From: "a"}, fmt.Sprint("kind ", n), impl.ScriptResult{Presence: impl.Presence{Kind: int64(n), From: "a"}, Said: "ok"})
	}
	for _, x := range []struct {
		p    impl.Presence
		line string
		code int64
	}{
		{impl.Presence{}, "kind 7", impl.ErrRange}, {impl.Presence{}, "kind -1", impl.ErrRange}, {impl.Presence{}, "kind 999", impl.ErrRange}, {impl.Presence{}, "kind 1000", impl.ErrText}, {impl.Presence{}, "kind 256", impl.ErrRange},
		{impl.Presence{}, "show 5", impl.ErrRange}, {impl.Presence{}, "show -1", impl.ErrRange}, {impl.Presence{}, "show -999", impl.ErrRange}, {impl.Presence{}, "show -1000", impl.ErrText},
		{impl.Presence{}, "priority 128", impl.ErrRange}, {impl.Presence{}, "priority -129", impl.ErrRange}, {impl.Presence{}, "priority 999", impl.ErrRange}, {impl.Presence{}, "priority 1000", impl.ErrText},
		{impl.Presence{Show: 1}, "kind 1", impl.ErrForm}, {impl.Presence{Priority: 1}, "kind 1", impl.ErrForm}, {impl.Presence{Status: "s"}, "kind 2", impl.ErrForm}, {impl.Presence{Status: "s"}, "kind 7", impl.ErrRange},
		{impl.Presence{Kind: 1}, "show 1", impl.ErrForm}, {impl.Presence{Kind: 1}, "priority 1", impl.ErrForm}, {impl.Presence{Kind: 6}, "show 5", impl.ErrRange}, {impl.Presence{Kind: 1, Status: "s"}, "kind 2", impl.ErrForm},
		{impl.Presence{Kind: 6}, "status s", impl.ErrForm}, {impl.Presence{Kind: 6}, "status  ", impl.ErrForm}, {impl.Presence{Kind: 6}, "priority -1", impl.ErrForm},
	} {
		checkNoStep(t, "a step with a fault", x.p, x.line, x.code)
		checkRunIs(t, "a step with a fault", x.p, x.line+"\nkind x", impl.ScriptResult{Presence: x.p, Said: fmt.Sprintf("! %d\n! 5\n", x.code)})
	}
	checkStepIs(t, "no Status of a probe", impl.Presence{Kind: 6}, "status", impl.ScriptResult{Presence: impl.Presence{Kind: 6}, Said: "ok"})
	checkStepIs(t, "no Show of a probe", impl.Presence{Kind: 6}, "show 0", impl.ScriptResult{Presence: impl.Presence{Kind: 6}, Said: "ok"})
}

func TestTextsInLines(t *testing.T) {
	for _, x := range append([]choice[string]{{"no byte", "", impl.OK}}, textChoices...) {
		for _, p := range []impl.Presence{{}, fullPresence(), {Kind: 1}, {Kind: 6}} {
			for _, word := range []string{"from", "to", "status"} {
				checkStep(t, p, word+" "+x.value)
				checkStep(t, p, word+"  "+x.value+" ")
			}
		}
		if !strings.Contains(x.value, "\n") {
			want := impl.ScriptResult{Code: x.code}
			if x.code == impl.OK {
				want = impl.ScriptResult{Presence: impl.Presence{Status: x.value}, Said: "ok"}
			}
			checkStepIs(t, "Status: "+x.name, impl.Presence{}, "status "+x.value, want)
		}
	}
	for size := range 64 {
		text := strings.Repeat("a", size)
		for word, p := range map[string]impl.Presence{"from": {From: text}, "to": {To: text}, "status": {Status: text}} {
			want := impl.ScriptResult{Presence: p, Said: "ok"}
			if size > 60 {
				want = impl.ScriptResult{Code: impl.ErrMany}
			}
			checkStepIs(t, "a text of some size", impl.Presence{}, word+" "+text, want)
		}
	}
	for _, bad := range []string{"\x00", "\xff", "\xe2\x82", "\x80", "a\x7f", "\r", "\xed\xa0\x80"} {
		for _, word := range []string{"from", "to", "status"} {
			checkNoStep(t, "a text that is none", impl.Presence{}, word+" "+bad, impl.ErrText)
		}
	}
	// The texts are asked ahead of what the Kind can say.
	checkNoStep(t, "a long Status of a probe", impl.Presence{Kind: 6}, "status "+strings.Repeat("a", 61), impl.ErrMany)
}

// noTreesToAdd are lines that add what is no tree, or one that More cannot have.
var noTreesToAdd = []choice[string]{
	{"nothing", "add", impl.ErrText},
	{"a blank", "add ", impl.ErrText},
	{"blanks", "add    ", impl.ErrText},
	{"a word", "add x", impl.ErrText},
	{"no end", "add <x>", impl.ErrText},
	{"two trees", "add <x/><y/>", impl.ErrText},
	{"two trees with a blank", "add <x/> <y/>", impl.ErrText},
	{"a tree and a word", "add <x/> x", impl.ErrText},
	{"a prefix that is not set", "add <p:x/>", impl.ErrText},
	{"half a point", "add <x>\xe2\x82</x>", impl.ErrText},
	{"elements 41 deep", "add " + nested(41, ""), impl.ErrText},
	{"8 in one another", "add " + nested(8, ""), impl.ErrRange},
	{"40 in one another", "add " + nested(40, ""), impl.ErrRange},
	{"41 items", "add <a>" + strings.Repeat("<b/>", 40) + "</a>", impl.ErrMany},
	{"six Attrs", "add <x a='' b='' c='' d='' e='' f=''/>", impl.ErrMany},
	{"a text of 61 bytes", "add <x>" + strings.Repeat("x", 61) + "</x>", impl.ErrMany},
	{"a Space of 61 bytes", "add <x xmlns='" + strings.Repeat("u", 61) + "'/>", impl.ErrMany},
	{"7 in one another", "add " + nested(7, ""), impl.ErrRange},
	{"a text one too deep", "add " + nested(6, "x"), impl.ErrRange},
	{"40 items", "add <a>" + strings.Repeat("<b/>", 39) + "</a>", impl.ErrMany},
	{"21 items", "add <a>" + strings.Repeat("<b/>", 20) + "</a>", impl.ErrMany},
	{"21 items, one too deep", "add <a>" + nested(6, "") + strings.Repeat("<b/>", 14) + "</a>", impl.ErrMany},
	{"the ClientSpace", "add <x xmlns='jabber:client'/>", impl.ErrForm},
	{"a part of a presence", "add <show xmlns='jabber:client'>away</show>", impl.ErrForm},
	{"the ClientSpace and 7 in one another", "add <x xmlns='jabber:client'>" + nested(6, "") + "</x>", impl.ErrRange},
}

func TestTreesInLines(t *testing.T) {
	for _, x := range noTreesToAdd {
		for _, p := range []impl.Presence{{}, fullPresence(), {Kind: 1, Status: "s"}, {Kind: 6}} {
			checkNoStep(t, x.name, p, x.value, x.code)
			checkRunIs(t, x.name, p, x.value+"\n", impl.ScriptResult{Presence: p, Said: fmt.Sprintf("! %d\n", x.code)})
		}
	}
	for text, items := range marksOfTrees {
		p := impl.Presence{Kind: 6, More: []impl.Item{{Name: "x"}}}
		checkStep(t, p, "add "+text)
		checkStep(t, p, "  add  "+text+"  ")
		if p.More = append(p.More, items...); !strings.Contains(text, "\n") && impl.MoreFault(p.More) == impl.OK {
			checkStepIs(t, "a tree", impl.Presence{Kind: 6, More: p.More[:1]}, "add "+text, impl.ScriptResult{Presence: p, Said: "ok"})
		}
	}
	for name, text := range noMarks {
		if len(text) < 2990 {
			checkStep(t, impl.Presence{}, "add "+text)
		}
		if len(text) < 2990 && !strings.Contains(text, "\n") {
			checkNoStep(t, name, fullPresence(), "add "+text, impl.ErrText)
		}
	}
	for ahead := range 21 {
		for added := 1; added <= 21; added++ {
			want := impl.ScriptResult{Code: impl.ErrMany}
			if ahead+added <= 20 {
				want = impl.ScriptResult{Presence: impl.Presence{More: slices.Concat(rowOfTrees(ahead), rowOf(added))}, Said: "ok"}
			}
			line := "add <a>" + strings.Repeat("<b/>", added-1) + "</a>"
			checkStepIs(t, "items behind others", impl.Presence{More: rowOfTrees(ahead)}, line, want)
		}
	}
}

func TestWhatIsSaidOfPresences(t *testing.T) {
	for _, x := range presencesInFormats {
		for line, said := range map[string]impl.ScriptResult{
			"xml":     {Presence: x.presence, Said: x.marks},
			"  bin  ": {Presence: x.presence, Said: hex.EncodeToString([]byte(x.frame))},
			"pidf ":   {Code: x.code, Said: x.pidf},
		} {
			if said.Code == impl.OK {
				said.Presence = x.presence
			}
			checkStepIs(t, x.name, x.presence, line, said)
		}
		for _, line := range []string{"fits", "clear", "from", "status", "", "foo"} {
			checkStep(t, x.presence, line)
		}
	}
	for _, x := range presencesToKnow {
		checkStepIs(t, x.name, x.presence, "xml", impl.ScriptResult{Presence: x.presence, Said: x.marks})
	}
	for _, x := range projectionsToKnow {
		checkStepIs(t, x.name, x.presence, "pidf", impl.ScriptResult{Presence: x.presence, Said: x.marks})
		checkStep(t, x.presence, "fits")
		checkStepIs(t, x.name, x.projected, "fits", impl.ScriptResult{Presence: x.projected, Said: "yes"})
	}
}

// What is said in a format is what the presence is, read back.
func TestWhatIsSaidIsWhatIsSo(t *testing.T) {
	from := rand.New(rand.NewSource(1102))
	fit := 0
	for range 1500 {
		p := somePresenceForOthers(from)
		if shared := projectionOtherwise(p); shared.Code == impl.OK && from.Intn(2) == 0 {
			p = shared.Presence
		}
		for _, line := range []string{"xml", "bin", "pidf", "fits"} {
			checkStep(t, p, line)
		}
		if got := impl.StepScript(p, "xml"); got.Code == impl.OK {
			if read := impl.DecodePresence(impl.FormatXml, []byte(got.Said)); read.Code != impl.OK || !asOne(read.Presence, p) {
				t.Errorf("%+v is said as %q", p, got.Said)
			}
		}
		if got := impl.StepScript(p, "bin"); got.Code == impl.OK {
			frame, err := hex.DecodeString(got.Said)
			if read := impl.DecodePresence(impl.FormatBin, frame); err != nil || read.Code != impl.OK || !asOne(read.Presence, p) {
				t.Errorf("%+v is said as %q", p, got.Said)
			}
		}
		// What fits is read back as it was from what the other format says.
		pidf := impl.StepScript(p, "pidf")
		back := impl.DecodePresence(impl.FormatPidf, []byte(pidf.Said))
		fits := pidf.Code == impl.OK && back.Code == impl.OK && asOne(back.Presence, p)
		if got := impl.StepScript(p, "fits").Said; (got == "yes") != fits || (got == "no") == fits {
			t.Errorf("whether %+v fits is said as %q", p, got)
		}
		if fits {
			fit++
		}
	}
	if fit < 300 || fit > 1200 {
		t.Errorf("%d of 1500 fit", fit)
	}
}

func TestWhatFits(t *testing.T) {
	for _, x := range []struct {
		name string
		p    impl.Presence
		fits bool
	}{
		{"nothing", impl.Presence{}, false},
		{"a From", impl.Presence{From: "a@b"}, true},
		{"unavailable", impl.Presence{Kind: 1, From: "a@b"}, true},
		{"unavailable, with a Status", impl.Presence{Kind: 1, From: "a@b", Status: "s"}, true},
		{"unavailable, without a From", impl.Presence{Kind: 1}, false},
		{"subscribe", impl.Presence{Kind: 2, From: "a@b"}, false},
		{"a probe", impl.Presence{Kind: 6, From: "a@b"}, false},
		{"a To", impl.Presence{From: "a@b", To: "c@d"}, false},
		{"a To alone", impl.Presence{To: "c@d"}, false},
		{"away", impl.Presence{From: "a@b", Show: 1}, true},
		{"chat", impl.Presence{From: "a@b", Show: 2}, false},
		{"dnd", impl.Presence{From: "a@b", Show: 3}, true},
		{"xa", impl.Presence{From: "a@b", Show: 4}, false},
		{"a Status", impl.Presence{From: "a@b", Status: " "}, true},
		{"a Priority", impl.Presence{From: "a@b", Priority: 1}, true},
		{"the greatest Priority", impl.Presence{From: "a@b", Priority: 127}, true},
		{"a Priority below 0", impl.Presence{From: "a@b", Priority: -1}, false},
		{"More", impl.Presence{From: "a@b", More: rowOfTrees(1)}, false},
		{"no More", impl.Presence{From: "a@b", More: []impl.Item{}}, true},
		{"a From of 55 bytes", impl.Presence{From: strings.Repeat("a", 55)}, true},
		{"a From of 56 bytes", impl.Presence{From: strings.Repeat("a", 56)}, false},
		{"all that fits", impl.Presence{From: "a@b", Show: 3, Status: "s", Priority: 7}, true},
		{"all of it", fullPresence(), false},
	} {
		said := map[bool]string{true: "yes", false: "no"}[x.fits]
		checkStepIs(t, x.name, x.p, "fits", impl.ScriptResult{Presence: x.p, Said: said})
		checkRunIs(t, x.name, x.p, "\n fits \n", impl.ScriptResult{Presence: x.p, Said: said + "\n"})
	}
}

// A presence that is too long for a format is asked for in the others.
func TestPresencesThatAreTooLongToBeSaid(t *testing.T) {
	for _, size := range []int{2999, 3000, 3001, 3200} {
		for format, word := range map[int64]string{1: "xml", 2: "bin"} {
			p := presenceOfSize(t, format, "s", size)
			got := checkStep(t, p, word)
			if want := codeIf(impl.ErrMany, size > 3000); got.Code != want {
				t.Errorf("%s of %d bytes has the code %d, want %d", word, size, got.Code, want)
			}
			if got.Code == impl.OK && len(got.Said) != size*int(format) {
				t.Errorf("%s of %d bytes says %d", word, size, len(got.Said))
			}
			checkStep(t, p, "xml")
			checkStep(t, p, "bin")
			checkStep(t, p, "pidf")
			said := checkRun(t, p, word+"\nfits\nclear\n"+word)
			if isLong := strings.HasPrefix(said.Said, "! 2\nno\nok\n"); isLong != (size > 3000) || strings.Count(said.Said, "\n") != 4 {
				t.Errorf("%s of %d bytes, then clear: %.300q", word, size, said.Said)
			}
		}
	}
	p := presenceOfSize(t, 2, "s", 3000)
	if got := impl.RunScript(p, strings.Repeat("bin\n", 40)); got.Code != impl.OK || len(got.Said) != 40*6001 {
		t.Errorf("40 frames of 3000 bytes say %d bytes, with the code %d", len(got.Said), got.Code)
	}
}

// The fault of the presence is asked first, then the line feed, then the size,
// then what the words are.
func TestCodesOfSteps(t *testing.T) {
	faults := append(slices.Clone(noProjections), choice[impl.Presence]{"the Kind 9", impl.Presence{Kind: 9}, impl.ErrRange})
	for _, x := range noMores {
		faults = append(faults, choice[impl.Presence]{x.name, impl.Presence{More: x.value}, x.code})
	}
	long := strings.Repeat("x", 3000)
	for _, x := range faults {
		fault := impl.PresenceFault(x.value)
		if fault == impl.OK {
			continue
		}
		for _, line := range []string{"", " ", "xml", "fits", "clear", "kind 0", "show 0", "priority 0", "from a", "to", "status", "add <x/>", "add", "foo", "\n", "xml\n", long + "x", long + "\n"} {
			checkNoStep(t, x.name, x.value, line, fault)
			if got := impl.RunScript(x.value, line); !sameScripts(got, impl.ScriptResult{Code: fault}) {
				t.Errorf("%s: RunScript(%.30q) = %+v, want the code %d alone", x.name, line, got, fault)
			}
		}
		for _, text := range []string{strings.Repeat("\n", 40), strings.Repeat("\n", 41), strings.Repeat("xml\n", 1000), "kind 0\nshow 0\npriority 0\nfrom\nto\nstatus\nclear\n"} {
			if got := impl.RunScript(x.value, text); !sameScripts(got, impl.ScriptResult{Code: fault}) {
				t.Errorf("%s: RunScript(%.30q) = %+v, want the code %d alone", x.name, text, got, fault)
			}
		}
	}
	for _, p := range []impl.Presence{{}, fullPresence(), {Kind: 6}} {
		for _, line := range []string{"\n", "xml\n", "\nxml", "x\nml", " \n ", "status a\nb", "status \n", "add <x>\n</x>", "add <x/>\n", "from\na", "foo\n", long + "\n", "\n" + long, strings.Repeat("\n", 3001), "kind 9\n", "\xff\n"} {
			checkNoStep(t, "a line feed", p, line, impl.ErrText)
		}
		for _, line := range []string{long + "x", "xml" + strings.Repeat(" ", 2998), "status " + long, "foo " + long, strings.Repeat(" ", 3001), "kind 9" + strings.Repeat(" ", 3000), "add" + long, strings.Repeat(long, 400), "\xff" + long} {
			checkNoStep(t, "a long line", p, line, impl.ErrMany)
		}
	}
}

// A line of 3000 bytes is done as a short one is.
func TestLinesOfEachSize(t *testing.T) {
	for _, size := range []int{2998, 2999, 3000, 3001} {
		for _, line := range []string{"kind 0", "show 1", "priority 7", "from a", "from", "to a", "to", "status", "add <z/>", "clear", "xml", "bin", "pidf", "fits", "foo", ""} {
			blanks := strings.Repeat(" ", size-len(line))
			padded := []string{blanks + line, line + blanks, blanks[:len(blanks)/2] + line + blanks[len(blanks)/2:]}
			for _, whole := range append(padded, strings.Replace(line, " ", blanks+" ", 1)) {
				got := checkStep(t, fullPresence(), whole)
				if size > 3000 && len(whole) == size && got.Code != impl.ErrMany {
					t.Errorf("%s in %d bytes has the code %d", line, size, got.Code)
				}
				checkRun(t, fullPresence(), whole)
			}
			if want := stepOtherwise(fullPresence(), line); size <= 3000 {
				checkStepIs(t, "blanks ahead", fullPresence(), padded[0], want)
			}
		}
		for _, word := range []string{"from ", "to ", "status ", "add ", "foo ", "kind ", "from  ", "x"} {
			for _, piece := range []string{"a", "\xe2\x82\xac", "0", "<a>", "\t", "&amp;"} {
				line := (word + strings.Repeat(piece, 3001))[:size]
				checkStep(t, impl.Presence{}, line)
				checkRun(t, impl.Presence{}, line)
			}
		}
	}
}

// A tree that is told in 2996 bytes is added, though its one text is short.
func TestLongTreesInLines(t *testing.T) {
	line := "add <z" + strings.Repeat(" ", 3000-len("add <z/>")) + "/>"
	checkStepIs(t, "a long tree", impl.Presence{}, line, impl.ScriptResult{Presence: impl.Presence{More: []impl.Item{{Name: "z"}}}, Said: "ok"})
	checkRunIs(t, "a long tree", impl.Presence{}, line, impl.ScriptResult{Presence: impl.Presence{More: []impl.Item{{Name: "z"}}}, Said: "ok\n"})
	checkNoStep(t, "one byte more", impl.Presence{}, line+" ", impl.ErrMany)
	checkRunIs(t, "a line feed more", impl.Presence{}, line+"\n", impl.ScriptResult{Code: impl.ErrMany})
}

// scriptsToKnow are texts, and what is said line by line.
var scriptsToKnow = []struct {
	name     string
	presence impl.Presence
	text     string
	becomes  impl.Presence
	said     string
}{
	{"no bytes", fullPresence(), "", fullPresence(), ""},
	{"a line feed", fullPresence(), "\n", fullPresence(), ""},
	{"line feeds", fullPresence(), "\n\n\n", fullPresence(), ""},
	{"a blank", impl.Presence{}, " ", impl.Presence{}, ""},
	{"blanks and line feeds", impl.Presence{}, "  \n \n\n   ", impl.Presence{}, ""},
	{"a line without a line feed", impl.Presence{}, "xml", impl.Presence{}, "<presence xmlns=\"jabber:client\"/>\n"},
	{"a line with a line feed", impl.Presence{}, "xml\n", impl.Presence{}, "<presence xmlns=\"jabber:client\"/>\n"},
	{"empty lines about a line", impl.Presence{}, "\n\nfits\n\n", impl.Presence{}, "no\n"},
	{"each line sees the ones ahead", impl.Presence{}, "fits\nfrom a\nfits\nto b\nfits\nto\nfits\nfrom\nfits", impl.Presence{}, "no\nok\nyes\nok\nno\nok\nyes\nok\nno\n"},
	{"the order tells", impl.Presence{}, "show 1\nkind 2\nshow 0\nkind 2\nshow 1", impl.Presence{Kind: 2}, "ok\n! 1\nok\nok\n! 1\n"},
	{"faults turn nothing", impl.Presence{From: "a", Priority: 3}, "priority 128\npriority x\nfrom \x00\nfrom a b\nstatus " + strings.Repeat("x", 61) + "\nadd <x>\nshow 9\nfits\n",
		impl.Presence{From: "a", Priority: 3}, "! 3\n! 5\n! 5\n! 5\n! 2\n! 5\n! 3\nyes\n"},
	{"all codes", impl.Presence{Kind: 2, More: rowOfTrees(20)}, "show 1\nadd <x/>\nkind 7\nfoo\npidf", impl.Presence{Kind: 2, More: rowOfTrees(20)}, "! 1\n! 2\n! 3\n! 5\n! 7\n"},
	{"two Attrs of one name", impl.Presence{}, "add <x a='1' a='2'/>", impl.Presence{}, "! 5\n"},
	{"the same line twice", impl.Presence{}, "add <x/>\nadd <x/>\n", impl.Presence{More: []impl.Item{{Name: "x"}, {Name: "x"}}}, "ok\nok\n"},
	{"More is cleared and told again", fullPresence(), "clear\nadd <x/>\nclear\nadd <y/>\n\nclear\nadd <z/>", fullWith(func(p *impl.Presence) { p.More = []impl.Item{{Name: "z"}} }), "ok\nok\nok\nok\nok\nok\n"},
	{"a Status as it is told", impl.Presence{}, "status   a  b \nxml", impl.Presence{Status: "  a  b "}, "ok\n<presence xmlns=\"jabber:client\"><status>  a  b </status></presence>\n"},
	{"a name with blanks", impl.Presence{}, "from a b\nto  c  \nxml", impl.Presence{To: "c"}, "! 5\nok\n<presence xmlns=\"jabber:client\" to=\"c\"/>\n"},
	{"a byte 13 at the end", impl.Presence{}, "xml\r\nfrom a\r\nstatus a\r\n\r\n", impl.Presence{}, "! 5\n! 5\n! 5\n! 5\n"},
	{"a frame", impl.Presence{}, "kind 2\nbin", impl.Presence{Kind: 2}, "ok\n040d6a61626265723a636c69656e740870726573656e63650474797065097375627363726962650100010001010203\n"},
	{"another format", impl.Presence{}, "from a@b\nshow 4\npriority 64\nstatus s\npidf\nxml", impl.Presence{From: "a@b", Show: 4, Priority: 64, Status: "s"},
		"ok\nok\nok\nok\n" + pidfWith(openMark+awayMark+contactMark+noteMark) + "\n<presence xmlns=\"jabber:client\" from=\"a@b\"><show>xa</show><status>s</status><priority>64</priority></presence>\n"},
	{"line feeds in what is said", impl.Presence{Status: "a\nb"}, "xml\nstatus\nxml", impl.Presence{}, "<presence xmlns=\"jabber:client\"><status>a\nb</status></presence>\nok\n<presence xmlns=\"jabber:client\"/>\n"},
	{"bytes that are no points", impl.Presence{}, "\xff\n\xe2\nfrom \x82\xac\nfits", impl.Presence{}, "! 5\n! 5\n! 5\nno\n"},
}

func TestScriptsToKnow(t *testing.T) {
	for _, x := range scriptsToKnow {
		checkRunIs(t, x.name, x.presence, x.text, impl.ScriptResult{Presence: x.becomes, Said: x.said})
		checkRunIs(t, x.name+", with a blank ahead", x.presence, " "+x.text, impl.ScriptResult{Presence: x.becomes, Said: x.said})
		checkRunIs(t, x.name+", with a line feed ahead", x.presence, "\n"+x.text, impl.ScriptResult{Presence: x.becomes, Said: x.said})
	}
}

// The whole script of two is what both say, one behind the other.
func TestScriptsBehindOneAnother(t *testing.T) {
	for _, x := range scriptsToKnow {
		for _, y := range scriptsToKnow {
			first := impl.RunScript(x.presence, x.text+"\n")
			second := impl.RunScript(first.Presence, y.text)
			checkRunIs(t, x.name+", then "+y.name, x.presence, x.text+"\n"+y.text, impl.ScriptResult{Presence: second.Presence, Said: first.Said + second.Said})
		}
	}
}

func TestScriptsOfEachNumberOfLines(t *testing.T) {
	for _, line := range []string{"", " ", "fits", "foo", "to a", "add <x/>"} {
		said := map[string]string{"fits": "no\n", "foo": "! 5\n", "to a": "ok\n", "add <x/>": "ok\n"}[line]
		for count := range 50 {
			ended := strings.Repeat(line+"\n", count)
			texts := map[string]int{ended: count, ended + "fits": count + 1, ended + " ": count + 1, ended + "\n": count + 1}
			if line != "" && count > 0 {
				texts[ended[:len(ended)-1]] = count
			}
			for text, lines := range texts {
				got := checkRun(t, impl.Presence{}, text)
				if want := codeIf(impl.ErrMany, lines > 40); got.Code != want {
					t.Errorf("%d lines, %.300q: the code %d, want %d", lines, text, got.Code, want)
				}
				if lines > 40 && !sameScripts(got, impl.ScriptResult{Code: impl.ErrMany}) {
					t.Errorf("%d lines: %+v, want the code alone", lines, got)
				}
				if text == ended && count <= 20 && got.Said != strings.Repeat(said, count) {
					t.Errorf("%d lines of %q say %q", count, line, got.Said)
				}
			}
		}
	}
	for _, text := range []string{strings.Repeat("\n", 3000), strings.Repeat("\n", 3001), strings.Repeat("\n", 1<<20), strings.Repeat("x\n", 1500)} {
		checkRunIs(t, "very many lines", fullPresence(), text, impl.ScriptResult{Code: impl.ErrMany})
	}
	more := impl.RunScript(impl.Presence{}, strings.Repeat("add <x/>\n", 40))
	if !sameScripts(more, impl.ScriptResult{Presence: impl.Presence{More: slices.Repeat([]impl.Item{{Name: "x"}}, 20)}, Said: strings.Repeat("ok\n", 20) + strings.Repeat("! 2\n", 20)}) {
		t.Errorf("40 trees: %+v", more)
	}
}

func TestScriptsOfEachSize(t *testing.T) {
	for _, size := range []int{2998, 2999, 3000, 3001, 3002, 1 << 16} {
		for _, text := range []string{
			strings.Repeat(" ", size), strings.Repeat("x", size), "from a\nxml" + strings.Repeat(" ", size-10), strings.Repeat(" ", size-4) + "fits", strings.Repeat(" ", size-5) + "fits\n",
			"status a\n" + strings.Repeat("b", size-10) + "\n", strings.Repeat("\xff", size), strings.Repeat(strings.Repeat("x", 99)+"\n", size/100) + strings.Repeat("y", size%100),
		} {
			if len(text) != size {
				t.Fatalf("%d bytes instead of %d", len(text), size)
			}
			got := checkRun(t, impl.Presence{}, text)
			if want := codeIf(impl.ErrMany, size > 3000); got.Code != want {
				t.Errorf("a text of %d bytes, %.30q, has the code %d, want %d", size, text, got.Code, want)
			}
		}
	}
	checkRunIs(t, "a short line and a long one", impl.Presence{}, "from a\n"+strings.Repeat("x", 2993), impl.ScriptResult{Presence: impl.Presence{From: "a"}, Said: "ok\n! 5\n"})
}

// someLine is a line of any kind, most of them without a fault.
func someLine(from *rand.Rand) string {
	pick := func(words ...string) string { return words[from.Intn(len(words))] }
	line := pick(
		"kind "+pick("0", "0", "1", "2", "6", "7", "01"),
		"show "+pick("0", "0", "1", "2", "3", "4", "5", "x"),
		"priority "+pick("0", "0", "1", "-1", "64", "127", "128", "-0"),
		"from "+pick("a@b", "c", "a b", strings.Repeat("a", 56), strings.Repeat("a", 61), ""),
		"to "+pick("c@d", "", "", "a b"),
		"status "+pick("", "", "s", " gone  fishing ", someTextInLine(from), strings.Repeat("s", 61)),
		"add "+pick("<x/>", "<x xmlns='u' a='1'>t<y/></x>", nested(7, ""), "<x>", "<x xmlns='jabber:client'/>", string(somehowWritten(from, someTree(from, 1+from.Intn(4), 3)))),
		"clear", "xml", "bin", "pidf", "fits", "", "foo",
	)
	blanks := func() string { return strings.Repeat(" ", max(0, from.Intn(5)-2)) }
	return blanks() + strings.ReplaceAll(line, "\n", " ") + blanks()
}

func someTextInLine(from *rand.Rand) string {
	return strings.ReplaceAll(someText(from, from.Intn(8)), "\n", "\t")
}

func TestScriptsAtRandom(t *testing.T) {
	from := rand.New(rand.NewSource(1103))
	met := map[string]int{}
	for range 1500 {
		p := impl.Presence{}
		if from.Intn(3) == 0 {
			p = somePresence(from)
		}
		var lines []string
		for range from.Intn(43) {
			line := someLine(from)
			lines = append(lines, line)
			checkStep(t, p, line)
			checkLine(t, line)
		}
		text := strings.Join(lines, "\n") + []string{"", "\n"}[from.Intn(2)]
		for line := range strings.Lines(checkRun(t, p, text).Said) {
			met[line[:min(len(line), 3)]]++
		}
	}
	for _, start := range []string{"ok\n", "yes", "no\n", "<pr", "! 1", "! 2", "! 3", "! 5", "! 7"} {
		if met[start] < 100 {
			t.Errorf("only %d lines say %q", met[start], start)
		}
	}
}

// A presence is told by lines from nothing on, whatever it is.
func TestPresencesToldByLines(t *testing.T) {
	from := rand.New(rand.NewSource(1104))
	told := 0
	for range 1500 {
		p := somePresence(from)
		var text strings.Builder
		for _, x := range []struct{ word, rest string }{{"from", p.From}, {"to", p.To}, {"status", p.Status}} {
			text.WriteString(x.word + " " + x.rest + "\n")
		}
		fmt.Fprintf(&text, "kind %d\nshow %d\npriority %d\n", p.Kind, p.Show, p.Priority)
		for at, x := range p.More {
			if x.Depth != 0 {
				continue
			}
			end := at + 1
			for end < len(p.More) && p.More[end].Depth > 0 {
				end++
			}
			text.WriteString("add " + impl.PrintXml(p.More[at:end]).Text + "\n")
		}
		if strings.ContainsAny(p.From+p.To, " \n") || strings.Contains(p.Status, "\n") || strings.Contains(text.String(), "\n<") || text.Len() > 3000 || len(linesOtherwise(text.String())) > 40 {
			continue
		}
		got := checkRun(t, impl.Presence{}, text.String())
		if strings.Contains(got.Said, "! ") {
			// A tree with a line feed in a text has more than one line.
			continue
		}
		if got.Code != impl.OK || !asOne(got.Presence, p) {
			t.Errorf("%q makes %+v, want %+v", text.String(), got.Presence, p)
		}
		told++
	}
	if told < 300 {
		t.Errorf("only %d of 1500 have been told", told)
	}
}

// linesOfAllKinds are a line of each kind, and some that are none.
var linesOfAllKinds = []string{"", " ", "kind 0", "kind 9", "show 1", "priority 7", "from e@f", "from", "to e@f", "to", "status t", "status", "add <z xmlns='v' b='2'>t</z>", "add <z>", "clear", "xml", "bin", "pidf", "fits", "foo", "xml\n"}

// lineWithLines is what comes of a line, as a step and as a script.
func lineWithLines(p impl.Presence, line string) []impl.ScriptResult {
	return []impl.ScriptResult{impl.StepScript(p, line), impl.RunScript(p, line), impl.RunScript(p, line+"\n\n"), impl.RunScript(p, "foo\n"+line), impl.RunScript(p, line+"\nfits")}
}

func TestAnswersOfChapter11AreNewMemory(t *testing.T) {
	var lists [][]string
	var trees [][]impl.Item
	for _, line := range append(slices.Clone(linesThatAreNone), linesOfAllKinds...) {
		words := impl.WordsOf(line).Words
		fill(words, "?")
		lists = append(lists, words)
		checkLine(t, line)
	}
	checkFilled(t, lists, "?")
	for _, line := range linesOfAllKinds {
		p := fullPresence()
		for _, got := range lineWithLines(p, line) {
			fillItems(got.Presence.More, "?")
			trees = append(trees, got.Presence.More)
		}
		if !asOne(p, fullPresence()) {
			t.Errorf("%q: what is written into an answer shows in its argument", line)
		}
		checkStep(t, p, line)
	}
	for _, x := range moresToKnow {
		p := impl.Presence{More: copyOf(x.value)}
		for _, line := range linesOfAllKinds {
			for _, got := range lineWithLines(p, line) {
				fillItems(got.Presence.More, "?")
				trees = append(trees, got.Presence.More)
			}
			if !sameLists(p.More, x.value) {
				t.Errorf("%s, %q: what is written into an answer shows in its argument", x.name, line)
			}
		}
	}
	checkOverwritten(t, trees)
}

// Answers stay as they are when what they were told of turns.
func TestAnswersOfChapter11DoNotTurnWithArguments(t *testing.T) {
	for _, line := range linesOfAllKinds {
		p := fullPresence()
		var wants []impl.ScriptResult
		for _, want := range lineWithLines(fullPresence(), line) {
			want.Presence.More = copyOf(want.Presence.More)
			wants = append(wants, want)
		}
		answers := lineWithLines(p, line)
		fillItems(p.More, "?")
		for i, got := range answers {
			if !sameScripts(got, wants[i]) {
				t.Errorf("%q: an answer turns with its argument: %+v", line, got)
			}
		}
	}
	data := []byte{1, 2, 3}
	text := impl.HexText(data).Text
	fill(data, 170)
	if text != "010203" {
		t.Errorf("HexText turns with its argument: %q", text)
	}
}

// What is written into one list of an answer, or behind its end, is in no other,
// though the lists of the argument are one.
func TestListsOfAScriptShareNothing(t *testing.T) {
	attrs := attrsOf("a", "1", "b", "2")
	p := impl.Presence{From: "a", More: []impl.Item{{Name: "x", Attrs: attrs}, {Depth: 1, Name: "y", Attrs: attrs}, {Name: "z", Attrs: attrs[:1]}}}
	for _, line := range []string{"", "xml", "fits", "show 1", "status s", "from", "add <z a='1' b='2'><z a='1' b='2'/></z>"} {
		for i, got := range lineWithLines(p, line) {
			again := lineWithLines(p, line)
			want := runBy(stepOtherwise, p, line).Presence.More
			checkApart(t, fmt.Sprintf("%q, %d", line, i), got.Presence.More, copyOf(want))
			for _, other := range again {
				if !sameLists(other.Presence.More, want) {
					t.Errorf("%q: two answers share memory", line)
				}
			}
			if !slices.Equal(attrs, attrsOf("a", "1", "b", "2")) {
				t.Fatalf("%q: an answer shares the Attrs of its argument", line)
			}
		}
	}
}

// Arguments have more memory behind their ends, and this stays as it is, too.
func TestChapter11ChangesNoArgument(t *testing.T) {
	mores := [][]impl.Item{fullPresence().More}
	for _, x := range slices.Concat(moresToKnow, noMores) {
		mores = append(mores, x.value[:min(len(x.value), 60)])
	}
	for _, more := range mores {
		roomy := withRoom(more)
		before := allOf(roomy)
		p := impl.Presence{From: "a", More: roomy}
		for _, line := range linesOfAllKinds {
			lineWithLines(p, line)
		}
		impl.RunScript(p, strings.Join(linesOfAllKinds, "\n"))
		if !sameLists(allOf(roomy), before) {
			t.Errorf("%+v has been changed", more)
		}
		for _, line := range linesOfAllKinds {
			checkStep(t, p, line)
		}
	}
	for _, data := range [][]byte{nil, {1, 2, 3}, everyByte(), make([]byte, 3000), make([]byte, 3001)} {
		roomy := behindEnd(data, 129)
		before := slices.Clone(roomy[:cap(roomy)])
		impl.HexText(roomy)
		if !slices.Equal(roomy[:cap(roomy)], before) {
			t.Errorf("% .30x has been changed", data)
		}
		// What stands behind the end is none of the data.
		checkHex(t, roomy)
	}
}

// What was said, and what could not be done, changes nothing of what comes next.
func TestNothingIsKeptFromScriptToScript(t *testing.T) {
	for _, x := range scriptsToKnow {
		for _, y := range scriptsToKnow {
			impl.RunScript(y.presence, y.text)
			impl.RunScript(y.presence, y.text+strings.Repeat("\n", 41))
			checkRunIs(t, x.name+" behind "+y.name, x.presence, x.text, impl.ScriptResult{Presence: x.becomes, Said: x.said})
		}
		for _, line := range linesOfAllKinds {
			impl.StepScript(fullPresence(), line)
			impl.StepScript(impl.Presence{Kind: 9}, line)
			checkRunIs(t, x.name+" behind "+line, x.presence, x.text, impl.ScriptResult{Presence: x.becomes, Said: x.said})
		}
	}
}

// Calls that run at the same time, also of the same presence, do not show in one
// another.
func TestAnswersOfChapter11HangOnArgumentsAlone(t *testing.T) {
	p := fullPresence()
	var all sync.WaitGroup
	for range 8 {
		all.Go(func() {
			for i := range 200 {
				x, y := scriptsToKnow[i%len(scriptsToKnow)], turningLines[i%len(turningLines)]
				if impl.WordsOf(strings.Repeat("a", 3001)).Code != impl.ErrMany || impl.RestOf(" ").Code != impl.ErrNone || impl.HexText(make([]byte, 3001)).Code != impl.ErrMany || impl.StepScript(p, "foo").Code != impl.ErrText || impl.StepScript(p, "kind 9").Code != impl.ErrRange || impl.RunScript(p, strings.Repeat("\n", 41)).Code != impl.ErrMany {
					t.Error("a fault is told otherwise at a later call")
				}
				if !sameScripts(impl.RunScript(x.presence, x.text), impl.ScriptResult{Presence: x.becomes, Said: x.said}) || !sameScripts(impl.StepScript(p, y.line), impl.ScriptResult{Presence: y.becomes, Said: "ok"}) || impl.RestOf("a  b").Text != " b" || len(impl.WordsOf("a  b").Words) != 2 || impl.HexText([]byte{10}).Text != "0a" {
					t.Error("an answer is another one at a later call")
				}
			}
		})
	}
	all.Wait()
}

func FuzzHexText(f *testing.F) {
	f.Add([]byte{})
	f.Add([]byte{0, 10, 255})
	f.Fuzz(func(t *testing.T, data []byte) {
		checkHex(t, data)
	})
}

func FuzzSteps(f *testing.F) {
	for _, x := range turningLines {
		f.Add(int64(0), "a@b", "c@d", int64(4), "s", int64(-5), []byte("\x01\x00\x00\x02\x00\x00\x01\x00\x00"), x.line)
	}
	for _, line := range linesThatAreNone {
		f.Add(int64(1), "a", "", int64(0), "s", int64(0), []byte{}, line)
	}
	for _, x := range noTreesToAdd {
		f.Add(int64(6), "a", "", int64(0), "", int64(0), []byte("\x01\x00\x00"), x.value)
	}
	for _, line := range linesOfAllKinds {
		f.Add(int64(0), "a", "", int64(0), "", int64(0), []byte("\x01\x00\xfa\x02\x00\xfb\x83\xf1\x00"), line)
	}
	f.Fuzz(func(t *testing.T, kind int64, from, to string, show int64, status string, priority int64, data []byte, line string) {
		checkStep(t, impl.Presence{Kind: kind, From: from, To: to, Show: show, Status: status, Priority: priority, More: itemsIn(data)}, line)
		checkStep(t, impl.Presence{}, line)
		checkStep(t, fullPresence(), line)
		checkLine(t, line)
	})
}

func FuzzScripts(f *testing.F) {
	for _, x := range scriptsToKnow {
		f.Add(x.text)
	}
	f.Add(strings.Join(linesOfAllKinds, "\n"))
	f.Fuzz(func(t *testing.T, text string) {
		checkRun(t, impl.Presence{}, text)
		checkRun(t, fullPresence(), text)
		checkLine(t, text)
	})
}
