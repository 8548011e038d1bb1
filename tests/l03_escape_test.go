package tests

import (
	"fmt"
	"regexp"
	"slices"
	"strconv"
	"strings"
	"sync"
	"testing"
	"unicode/utf8"

	"loop.example/g00795/impl"
)

// writtenSigns are the signs that are written otherwise, and how they are in a
// text and in a value.
var writtenSigns = []struct {
	sign    string
	inText  string
	inValue string
}{
	{"&", "&amp;", "&amp;"},
	{"<", "&lt;", "&lt;"},
	{">", "&gt;", "&gt;"},
	{"\"", "\"", "&quot;"},
	{"\t", "\t", "&#9;"},
	{"\n", "\n", "&#10;"},
}

// waysToWrite are forms of one sign each, as they may be read.
var waysToWrite = map[string]string{
	"&amp;":      "&",
	"&lt;":       "<",
	"&gt;":       ">",
	"&quot;":     "\"",
	"&apos;":     "'",
	"&#9;":       "\t",
	"&#09;":      "\t",
	"&#0000009;": "\t",
	"&#10;":      "\n",
	"&#32;":      " ",
	"&#34;":      "\"",
	"&#38;":      "&",
	"&#39;":      "'",
	"&#60;":      "<",
	"&#62;":      ">",
	"&#65;":      "A",
	"&#065;":     "A",
	"&#0065;":    "A",
	"&#00065;":   "A",
	"&#000065;":  "A",
	"&#0000065;": "A",
	"&#126;":     "~",
	"&#128;":     "\xc2\x80",
	"&#160;":     "\xc2\xa0",
	"&#233;":     "\xc3\xa9",
	"&#8364;":    "\xe2\x82\xac",
	"&#55295;":   "\xed\x9f\xbf",
	"&#57344;":   "\xee\x80\x80",
	"&#65533;":   "\xef\xbf\xbd",
	"&#65536;":   "\xf0\x90\x80\x80",
	"&#128512;":  "\xf0\x9f\x98\x80",
	"&#1114111;": "\xf4\x8f\xbf\xbf",
	"&#x9;":      "\t",
	"&#xa;":      "\n",
	"&#xA;":      "\n",
	"&#x0a;":     "\n",
	"&#x00000A;": "\n",
	"&#x22;":     "\"",
	"&#x26;":     "&",
	"&#x27;":     "'",
	"&#x3c;":     "<",
	"&#x3C;":     "<",
	"&#x3e;":     ">",
	"&#x41;":     "A",
	"&#x041;":    "A",
	"&#x0041;":   "A",
	"&#x00041;":  "A",
	"&#x000041;": "A",
	"&#x20;":     " ",
	"&#xe9;":     "\xc3\xa9",
	"&#xE9;":     "\xc3\xa9",
	"&#x20ac;":   "\xe2\x82\xac",
	"&#x20AC;":   "\xe2\x82\xac",
	"&#x20aC;":   "\xe2\x82\xac",
	"&#xabcd;":   "\xea\xaf\x8d",
	"&#xABCD;":   "\xea\xaf\x8d",
	"&#xaBcD;":   "\xea\xaf\x8d",
	"&#xd7ff;":   "\xed\x9f\xbf",
	"&#xe000;":   "\xee\x80\x80",
	"&#xefef;":   "\xee\xbf\xaf",
	"&#xFEFE;":   "\xef\xbb\xbe",
	"&#xfffd;":   "\xef\xbf\xbd",
	"&#x10000;":  "\xf0\x90\x80\x80",
	"&#x1f600;":  "\xf0\x9f\x98\x80",
	"&#x10ffff;": "\xf4\x8f\xbf\xbf",
	"&#x10FFFF;": "\xf4\x8f\xbf\xbf",
}

// noWayToWrite cannot be read, whatever stands ahead or behind.
var noWayToWrite = map[string]string{
	"a sign that means something":       "<",
	"two of it":                         "<<",
	"it as it is written, and itself":   "&lt;<",
	"an ampersand":                      "&",
	"two ampersands":                    "&&",
	"an ampersand ahead of a form":      "&&amp;",
	"an ampersand behind a form":        "&amp;&",
	"an ampersand, a blank":             "& ",
	"an ampersand and its end":          "&;",
	"an ampersand, a blank, its end":    "& ;",
	"a name without an end":             "&amp",
	"half a name":                       "&am",
	"half a name with an end":           "&am;",
	"half of each name":                 "&l;&g;&quo;&apo;",
	"a name that is none":               "&foo;",
	"a name that goes on":               "&ampx;",
	"a name and a blank":                "&amp ;",
	"a blank and a name":                "& amp;",
	"a name and a line feed":            "&amp\n;",
	"a name in great letters":           "&AMP;",
	"a name with a great letter":        "&Lt;",
	"another great letter":              "&Quot;",
	"a name that others have":           "&nbsp;",
	"a name without an ampersand's end": "&lt&gt;",
	"a name within another":             "&a&amp;mp;",
	"a number without its sign":         "&65;",
	"a number of the other kind so":     "&x41;",
	"no digits":                         "&#;",
	"no digits of the other kind":       "&#x;",
	"no digits and no end":              "&#",
	"no digits of the other kind so":    "&#x",
	"a number without an end":           "&#65",
	"one of the other kind so":          "&#x41",
	"one that ends behind another":      "&#65&#65;",
	"eight digits":                      "&#12345678;",
	"eight digits with noughts ahead":   "&#00000065;",
	"nine digits":                       "&#000000065;",
	"very many digits":                  "&#" + strings.Repeat("0", 100) + "65;",
	"digits above 32 bits":              "&#4294967361;",
	"digits above 64 bits":              "&#18446744073709551681;",
	"seven of the other kind":           "&#x1000041;",
	"seven with noughts ahead":          "&#x0000041;",
	"eight with noughts ahead":          "&#x00000041;",
	"others above 32 bits":              "&#x100000041;",
	"others above 64 bits":              "&#x10000000000000041;",
	"a great x":                         "&#X41;",
	"two x":                             "&#xx41;",
	"an x behind":                       "&#41x;",
	"a 0 and an x":                      "&#0x41;",
	"a 0 and an x of the other kind":    "&#x0x41;",
	"two number signs":                  "&##65;",
	"a sign ahead":                      "&#+65;",
	"a sign ahead, below 0":             "&#-65;",
	"a sign ahead, the other kind":      "&#x+41;",
	"so, below 0":                       "&#x-41;",
	"a line between digits":             "&#6_5;",
	"so, of the other kind":             "&#x4_1;",
	"a point in a number":               "&#65.0;",
	"a power":                           "&#1e2;",
	"a blank ahead of digits":           "&# 65;",
	"a blank behind digits":             "&#65 ;",
	"a blank within digits":             "&#6 5;",
	"a blank ahead of the others":       "&#x 41;",
	"a blank behind the others":         "&#x41 ;",
	"a blank ahead of the number sign":  "& #65;",
	"a blank ahead of the x":            "&# x41;",
	"a letter as a digit":               "&#a;",
	"a letter within digits":            "&#6a;",
	"a letter that is no digit":         "&#xg;",
	"a great letter that is none":       "&#xG;",
	"a letter within the others":        "&#x4g;",
	"the sign ahead of 0":               "&#6/;",
	"the sign behind 9":                 "&#6:;",
	"the sign ahead of a":               "&#x`;",
	"the sign ahead of A":               "&#x@;",
	"digits of another writing":         "&#\xd9\xa6\xd9\xa5;",
	"digits that are wide":              "&#\xef\xbc\x96\xef\xbc\x95;",
	"a letter that is wide":             "&#x\xef\xbd\x81;",
	"an ampersand that is wide's end":   "&amp\xef\xbc\x9b",
	"the number 0":                      "&#0;",
	"the number 0 in seven digits":      "&#0000000;",
	"8":                                 "&#8;",
	"11":                                "&#11;",
	"13":                                "&#13;",
	"31":                                "&#31;",
	"127":                               "&#127;",
	"55296":                             "&#55296;",
	"56320":                             "&#56320;",
	"57343":                             "&#57343;",
	"65534":                             "&#65534;",
	"65535":                             "&#65535;",
	"1114112":                           "&#1114112;",
	"9999999":                           "&#9999999;",
	"0 of the other kind":               "&#x0;",
	"0 in six of the other kind":        "&#x000000;",
	"8 of the other kind":               "&#x8;",
	"11 of the other kind":              "&#xb;",
	"13 of the other kind":              "&#xD;",
	"31 of the other kind":              "&#x1f;",
	"127 of the other kind":             "&#x7F;",
	"55296 of the other kind":           "&#xd800;",
	"57343 of the other kind":           "&#xDFFF;",
	"65536 as two halves":               "&#xd800;&#xdc00;",
	"65534 of the other kind":           "&#xfffe;",
	"65535 of the other kind":           "&#xffff;",
	"1114112 of the other kind":         "&#x110000;",
	"16777215 of the other kind":        "&#xffffff;",
	"a sign that is none":               "\x00",
	"8 as it is":                        "\x08",
	"11 as it is":                       "\x0b",
	"13 as it is":                       "\r",
	"13 ahead of a line feed":           "\r\n",
	"31 as it is":                       "\x1f",
	"127 as it is":                      "\x7f",
	"65534 as it is":                    "\xef\xbf\xbe",
	"65535 as it is":                    "\xef\xbf\xbf",
	"a sign that is none in a name":     "&am\x00p;",
	"bytes that are no point's in it":   "&am\x80p;",
	"a point's bytes around a form":     "\xe2\x82&amp;\xac",
	"half a point and a form":           "\xc3&amp;",
	"half a point within digits":        "&#6\xc35;",
}

var formOfASign = regexp.MustCompile(`&(?:amp|lt|gt|quot|apos|#[0-9]{1,7}|#x[0-9a-fA-F]{1,6});`)

func isSign(point int64) bool {
	return point == 9 || point == 10 || isPoint(point) && point >= 32 && point != 127 && point != 65534 && point != 65535
}

// signOfForm tells the sign of a form that formOfASign knows, and nothing, if
// its number is none of a sign.
func signOfForm(form string) string {
	name := strings.Trim(form, "&;")
	if !strings.HasPrefix(name, "#") {
		return map[string]string{"amp": "&", "lt": "<", "gt": ">", "quot": "\"", "apos": "'"}[name]
	}
	base := 10
	digits := strings.TrimPrefix(name, "#")
	if strings.HasPrefix(digits, "x") {
		base, digits = 16, strings.TrimPrefix(digits, "x")
	}
	point, err := strconv.ParseInt(digits, base, 64)
	if err != nil || !isSign(point) {
		return ""
	}
	return formOf(point)
}

// readOtherwise is what UnescapeText has to tell, by a regular expression.
func readOtherwise(text string) impl.TextResult {
	if len(text) > 600 {
		return impl.TextResult{Code: impl.ErrMany}
	}
	fault := !utf8.ValidString(text) || strings.Contains(text, "<") || strings.Contains(formOfASign.ReplaceAllString(text, "_"), "&")
	for _, point := range text {
		fault = fault || !isSign(int64(point))
	}
	read := formOfASign.ReplaceAllStringFunc(text, func(form string) string {
		sign := signOfForm(form)
		fault = fault || sign == ""
		return sign
	})
	if fault {
		return impl.TextResult{Code: impl.ErrText}
	}
	return impl.TextResult{Text: read}
}

func checkRead(t *testing.T, text string) {
	t.Helper()
	if got, want := impl.UnescapeText(text), readOtherwise(text); got != want {
		t.Errorf("UnescapeText(%q) = %#v, want %#v", text, got, want)
	}
}

func checkEscapes(t *testing.T, text string, inText, inValue impl.TextResult) {
	t.Helper()
	if got := impl.EscapeText(text); got != inText {
		t.Errorf("EscapeText(%.70q) = %#v, want %#v", text, got, inText)
	}
	if got := impl.EscapeValue(text); got != inValue {
		t.Errorf("EscapeValue(%.70q) = %#v, want %#v", text, got, inValue)
	}
}

// checkReadBack is the promise itself.
func checkReadBack(t *testing.T, text string) {
	t.Helper()
	for name, written := range map[string]impl.TextResult{"EscapeText": impl.EscapeText(text), "EscapeValue": impl.EscapeValue(text)} {
		if written.Code != impl.OK {
			t.Fatalf("%s(%q) = %#v", name, text, written)
		}
		if got := impl.UnescapeText(written.Text); got != (impl.TextResult{Text: text}) {
			t.Fatalf("UnescapeText of the %s of %q, %q, = %#v", name, text, written.Text, got)
		}
	}
}

// eachRow tells every text of up to count of the pieces.
func eachRow(pieces []string, count int, tell func(text string)) {
	rows := []string{""}
	tell("")
	for range count {
		var longer []string
		for _, row := range rows {
			for _, piece := range pieces {
				tell(row + piece)
				longer = append(longer, row+piece)
			}
		}
		rows = longer
	}
}

func TestSignsThatAreWrittenOtherwise(t *testing.T) {
	for _, x := range writtenSigns {
		for _, with := range []string{"%s", "a%s", "%sa", "a%sb", "%[1]s%[1]s", "a%[1]s%[1]sb", "%[1]sa%[1]s", "\xe2\x82\xac%s\xf0\x9f\x98\x80", "%samp;", "%s#38;", " %s "} {
			checkEscapes(t, fmt.Sprintf(with, x.sign), impl.TextResult{Text: fmt.Sprintf(with, x.inText)}, impl.TextResult{Text: fmt.Sprintf(with, x.inValue)})
		}
	}
	checkEscapes(t, "<a b=\"c\">'d' &\te\n</a>",
		impl.TextResult{Text: "&lt;a b=\"c\"&gt;'d' &amp;\te\n&lt;/a&gt;"},
		impl.TextResult{Text: "&lt;a b=&quot;c&quot;&gt;'d' &amp;&#9;e&#10;&lt;/a&gt;"})
	checkEscapes(t, "&lt;&#9;&quot;", impl.TextResult{Text: "&amp;lt;&amp;#9;&amp;quot;"}, impl.TextResult{Text: "&amp;lt;&amp;#9;&amp;quot;"})
	checkEscapes(t, "\"&", impl.TextResult{Text: "\"&amp;"}, impl.TextResult{Text: "&quot;&amp;"})
}

func TestAllOtherSignsAreWrittenAsTheyAre(t *testing.T) {
	for point := int64(0); point <= 1114111; point++ {
		if !isPoint(point) || strings.Contains("&<>\"\t\n", formOf(point)) {
			continue
		}
		want := impl.TextResult{Code: impl.ErrText}
		if isSign(point) {
			want = impl.TextResult{Text: "a" + formOf(point) + "b"}
		}
		checkEscapes(t, "a"+formOf(point)+"b", want, want)
	}
}

func TestEscapesOfTextsOfEachSize(t *testing.T) {
	checkEscapes(t, "", impl.TextResult{}, impl.TextResult{})
	many := impl.TextResult{Code: impl.ErrMany}
	for size := range 200 {
		for _, x := range writtenSigns {
			if size > 60 {
				checkEscapes(t, strings.Repeat(x.sign, size), many, many)
				continue
			}
			checkEscapes(t, strings.Repeat(x.sign, size), impl.TextResult{Text: strings.Repeat(x.inText, size)}, impl.TextResult{Text: strings.Repeat(x.inValue, size)})
		}
	}
	for _, text := range []string{strings.Repeat("a", 60), strings.Repeat("\xc3\xa9", 30), strings.Repeat("\xe2\x82\xac", 20), strings.Repeat("\xf0\x9f\x98\x80", 15)} {
		checkEscapes(t, text, impl.TextResult{Text: text}, impl.TextResult{Text: text})
		checkEscapes(t, text+"a", many, many)
	}
}

func TestEscapesOfTextsWithAFault(t *testing.T) {
	for text, code := range map[string]int64{
		strings.Repeat("a", 61):              impl.ErrMany,
		strings.Repeat("a", 60) + "&":        impl.ErrMany,
		strings.Repeat("a", 59) + "\xc3\xa9": impl.ErrMany,
		strings.Repeat("\x00", 61):           impl.ErrMany,
		strings.Repeat("\x80", 61):           impl.ErrMany,
		strings.Repeat("&", 601):             impl.ErrMany,
		strings.Repeat("a", 4001):            impl.ErrMany,
		"\x00":                               impl.ErrText,
		"&\x00":                              impl.ErrText,
		"\x08":                               impl.ErrText,
		"\x0b":                               impl.ErrText,
		"a\rb":                               impl.ErrText,
		"\x1f":                               impl.ErrText,
		"\x7f":                               impl.ErrText,
		"\xef\xbf\xbe":                       impl.ErrText,
		"<\xef\xbf\xbf>":                     impl.ErrText,
		"&\xc3":                              impl.ErrText,
		"\xc3&":                              impl.ErrText,
		"\x80":                               impl.ErrText,
		"\xed\xa0\x80":                       impl.ErrText,
		strings.Repeat("&", 59) + "\xc3":     impl.ErrText,
		strings.Repeat("&", 59) + "\x00":     impl.ErrText,
		"\xff" + strings.Repeat("a", impl.MaxText-1): impl.ErrText,
	} {
		want := impl.TextResult{Code: code}
		checkEscapes(t, text, want, want)
	}
	for _, text := range noPoint {
		want := impl.TextResult{Code: impl.ErrText}
		for _, whole := range []string{text, text + "&", "&" + text, "\xef\xbf\xbd" + text} {
			checkEscapes(t, whole, want, want)
		}
	}
}

func TestWhatIsWrittenOtherwiseIsReadAsItWas(t *testing.T) {
	for _, text := range stringsThatFit {
		checkReadBack(t, text)
	}
	for point := int64(0); point <= 1114111; point++ {
		if isSign(point) {
			checkReadBack(t, formOf(point))
		}
	}
	for size := range 61 {
		for _, x := range writtenSigns {
			checkReadBack(t, strings.Repeat(x.sign, size))
			checkReadBack(t, strings.Repeat("a", 60-size)+strings.Repeat(x.sign, size))
		}
	}
	pieces := []string{"&", "<", ">", "\"", "'", "\t", "\n", ";", "#", "x", "1", "amp", "a", " ", "\xe2\x82\xac"}
	eachRow(pieces, 4, func(text string) { checkReadBack(t, text) })
	for form := range waysToWrite {
		checkReadBack(t, form)
	}
	for _, form := range noWayToWrite {
		if impl.TextFault(form) == impl.OK {
			checkReadBack(t, form)
		}
	}
}

// What means something is not in what is written; else it would not be what
// the layers above take it for.
func TestNoSignThatMeansSomethingIsLeft(t *testing.T) {
	pieces := []string{"&", "<", ">", "\"", "\t", "\n", "a"}
	eachRow(pieces, 4, func(text string) {
		if got := impl.EscapeText(text).Text; strings.ContainsAny(got, "<>") {
			t.Errorf("EscapeText(%q) = %q", text, got)
		}
		if got := impl.EscapeValue(text).Text; strings.ContainsAny(got, "<>\"\t\n") {
			t.Errorf("EscapeValue(%q) = %q", text, got)
		}
	})
}

func TestEachWayToWriteASignIsRead(t *testing.T) {
	for form, sign := range waysToWrite {
		for _, with := range []string{"%s", "a%s", "%sa", "a%sb", "%[1]s%[1]s", "%[1]s;", "#%s", ">%s>", "\"%s'", "\xe2\x82\xac%s\xe2\x82\xac", "\t%s\n", "%samp;", "%s#65;"} {
			text, want := fmt.Sprintf(with, form), fmt.Sprintf(with, sign)
			if got := impl.UnescapeText(text); got != (impl.TextResult{Text: want}) {
				t.Errorf("UnescapeText(%q) = %#v, want %#v", text, got, want)
			}
		}
	}
}

func TestTextsAreRead(t *testing.T) {
	for text, want := range map[string]string{
		"":                               "",
		"a":                              "a",
		" a  b ":                         " a  b ",
		">\"'\t\n;#x":                    ">\"'\t\n;#x",
		"amp;":                           "amp;",
		"\xef\xbf\xbd":                   "\xef\xbf\xbd",
		"&lt;&#65;&#x42;&apos;&#0067;>":  "<AB'C>",
		"&lt;a b=&quot;c&quot;&gt;":      "<a b=\"c\">",
		"&amp;lt;":                       "&lt;",
		"&amp;amp;amp;":                  "&amp;amp;",
		"&amp;#65;":                      "&#65;",
		"&#38;lt;":                       "&lt;",
		"&#38;#65;":                      "&#65;",
		"&#x26;amp;":                     "&amp;",
		"&amp;&amp;":                     "&&",
		"&#60;&#62;&#38;":                "<>&",
		"a&#10;b&#9;c\nd\te":             "a\nb\tc\nd\te",
		"&#8364;&#x20ac;\xe2\x82\xac":    "\xe2\x82\xac\xe2\x82\xac\xe2\x82\xac",
		"&#128512;\xf0\x9f\x98\x80&amp;": "\xf0\x9f\x98\x80\xf0\x9f\x98\x80&",
	} {
		if got := impl.UnescapeText(text); got != (impl.TextResult{Text: want}) {
			t.Errorf("UnescapeText(%q) = %#v, want %#v", text, got, want)
		}
	}
}

func TestTextsThatCannotBeRead(t *testing.T) {
	want := impl.TextResult{Code: impl.ErrText}
	for _, list := range []map[string]string{noWayToWrite, noPoint} {
		for name, text := range list {
			for _, whole := range []string{text, "a" + text, "&amp;" + text, "&#65;" + text, "\xe2\x82\xac" + text, "\xef\xbf\xbd" + text, ";" + text, text + " ", text + " amp;"} {
				if got := impl.UnescapeText(whole); got != want {
					t.Errorf("%s: UnescapeText(%q) = %#v, want ErrText alone", name, whole, got)
				}
			}
		}
	}
}

func TestEachNumberIsReadAsItsSign(t *testing.T) {
	for n := int64(0); n <= 1114111+2000; n++ {
		want := impl.TextResult{Code: impl.ErrText}
		if isSign(n) {
			want = impl.TextResult{Text: formOf(n)}
		}
		digits, others := strconv.FormatInt(n, 10), strconv.FormatInt(n, 16)
		for _, text := range []string{"&#" + digits + ";", "&#x" + others + ";"} {
			if got := impl.UnescapeText(text); got != want {
				t.Fatalf("UnescapeText(%q) = %#v, want %#v", text, got, want)
			}
		}
	}
	for n := int64(1114112); n < 16777216; n += 997 {
		checkRead(t, fmt.Sprintf("&#%d;", n))
		checkRead(t, fmt.Sprintf("&#x%X;", n))
	}
}

func TestEachPointIsReadAsItIs(t *testing.T) {
	for point := int64(0); point <= 1114111; point++ {
		if !isPoint(point) {
			continue
		}
		text := "a" + formOf(point) + "b"
		want := impl.TextResult{Code: impl.ErrText}
		if isSign(point) && point != '<' && point != '&' {
			want = impl.TextResult{Text: text}
		}
		if got := impl.UnescapeText(text); got != want {
			t.Fatalf("UnescapeText(%q) = %#v, want %#v", text, got, want)
		}
	}
}

func TestDigitsOfEachNumber(t *testing.T) {
	for count := range 12 {
		for _, digit := range "0123456789abcdefABCDEFgGxX_-+ " {
			for _, last := range "0159afAF" {
				digits := strings.Repeat(string(digit), count)
				checkRead(t, "&#"+digits+string(last)+";")
				checkRead(t, "&#x"+digits+string(last)+";")
				checkRead(t, "&#"+strings.Repeat("0", count)+string(digit)+string(last)+";")
				checkRead(t, "&#x"+strings.Repeat("0", count)+string(digit)+string(last)+";")
			}
		}
	}
}

func TestEachByteInAForm(t *testing.T) {
	for _, form := range []string{"&amp;", "&lt;", "&gt;", "&quot;", "&apos;", "&#65;", "&#x4a;", "&#x20AC;", "&#0000065;", "&#x00004A;"} {
		for at := range len(form) {
			checkRead(t, form[:at]+form[at+1:])
			checkRead(t, form[:at])
			for b := range 256 {
				checkRead(t, form[:at]+string([]byte{byte(b)})+form[at+1:])
				checkRead(t, form[:at]+string([]byte{byte(b)})+form[at:])
			}
		}
	}
}

func TestPiecesOfForms(t *testing.T) {
	pieces := []string{"&", "#", "x", "X", ";", "4", "1", "a", "A", "g", "lt", "amp", "<", "\xc3\xa9", "\xc3"}
	eachRow(pieces, 5, func(text string) { checkRead(t, text) })
}

func TestReadingLongTexts(t *testing.T) {
	for _, x := range []struct {
		name string
		text string
		code int64
		size int
	}{
		{"61 bytes", strings.Repeat("a", 61), impl.OK, 61},
		{"600 bytes", strings.Repeat("a", 600), impl.OK, 600},
		{"601 bytes", strings.Repeat("a", 601), impl.ErrMany, 0},
		{"600 bytes in points of three", strings.Repeat("\xe2\x82\xac", 200), impl.OK, 600},
		{"a point that ends behind 600 bytes", strings.Repeat("a", 599) + "\xc3\xa9", impl.ErrMany, 0},
		{"600 bytes, the last one half a point", strings.Repeat("a", 599) + "\xc3", impl.ErrText, 0},
		{"600 bytes in forms", strings.Repeat("&lt;", 150), impl.OK, 150},
		{"604 bytes in forms", strings.Repeat("&lt;", 151), impl.ErrMany, 0},
		{"120 forms", strings.Repeat("&amp;", 120), impl.OK, 120},
		{"60 forms of ten bytes", strings.Repeat("&#1114111;", 60), impl.OK, 240},
		{"a form that ends behind 600 bytes", strings.Repeat("a", 597) + "&lt;", impl.ErrMany, 0},
		{"a form that ends at 600 bytes", strings.Repeat("a", 596) + "&lt;", impl.OK, 597},
		{"a form at 600 bytes without an end", strings.Repeat("a", 597) + "&lt", impl.ErrText, 0},
		{"600 bytes, the last one an ampersand", strings.Repeat("a", 599) + "&", impl.ErrText, 0},
		{"600 bytes, the last one means something", strings.Repeat("a", 599) + "<", impl.ErrText, 0},
		{"600 bytes, the last one no sign", strings.Repeat("a", 599) + "\x00", impl.ErrText, 0},
		{"600 ampersands", strings.Repeat("&", 600), impl.ErrText, 0},
		{"600 that mean something", strings.Repeat("<", 600), impl.ErrText, 0},
		{"601 that mean something", strings.Repeat("<", 601), impl.ErrMany, 0},
		{"601 ampersands", strings.Repeat("&", 601), impl.ErrMany, 0},
		{"601 bytes that are no signs", strings.Repeat("\x00", 601), impl.ErrMany, 0},
		{"601 bytes that are no point's", strings.Repeat("\x80", 601), impl.ErrMany, 0},
		{"more bytes than PointsOf takes", strings.Repeat("a", 4001), impl.ErrMany, 0},
		{"very many bytes", strings.Repeat("&", 1<<20), impl.ErrMany, 0},
		{"very many digits", "&#" + strings.Repeat("0", 597) + ";", impl.ErrText, 0},
	} {
		got := impl.UnescapeText(x.text)
		if got.Code != x.code || len(got.Text) != x.size {
			t.Errorf("%s: code %d, %d bytes, want %d and %d", x.name, got.Code, len(got.Text), x.code, x.size)
		}
		if want := readOtherwise(x.text); got != want {
			t.Errorf("%s: %#v, want %#v", x.name, got, want)
		}
	}
}

// A fault ahead of a call must not show in the call behind it, nor must calls
// that run at the same time show in one another.
func TestAnswersOfChapter3HangOnArgumentsAlone(t *testing.T) {
	var kept []string
	for form := range waysToWrite {
		kept = append(kept, impl.UnescapeText(form).Text, impl.EscapeText(form).Text, impl.EscapeValue(form).Text)
	}
	copies := strings.Join(kept, "\x00")
	var all sync.WaitGroup
	for range 8 {
		all.Go(func() {
			for range 200 {
				if impl.EscapeText("\x00").Code != impl.ErrText || impl.EscapeValue("\xc3").Code != impl.ErrText || impl.UnescapeText("&").Code != impl.ErrText {
					t.Error("a fault is told otherwise at a later call")
				}
				if impl.EscapeText("<\"").Text != "&lt;\"" || impl.EscapeValue("<\"").Text != "&lt;&quot;" || impl.UnescapeText("&#65;").Text != "A" {
					t.Error("an answer is another one at a later call")
				}
			}
		})
	}
	all.Wait()
	if strings.Join(kept, "\x00") != copies {
		t.Error("a later call wrote into an answer")
	}
	if !slices.Contains(kept, "A") {
		t.Error("no answer was kept")
	}
}

func FuzzUnescapeText(f *testing.F) {
	for form := range waysToWrite {
		f.Add(form)
	}
	for _, text := range noWayToWrite {
		f.Add(text)
	}
	f.Fuzz(func(t *testing.T, text string) {
		checkRead(t, text)
		if impl.TextFault(text) == impl.OK {
			checkReadBack(t, text)
		}
	})
}
