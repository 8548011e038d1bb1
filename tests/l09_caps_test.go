package tests

import (
	"bytes"
	"crypto/sha1"
	"encoding/base64"
	"encoding/hex"
	"math/rand"
	"regexp"
	"slices"
	"strconv"
	"strings"
	"sync"
	"testing"
	"unicode/utf8"

	"loop.example/g00795/impl"
)

var signsOfAField = regexp.MustCompile(`^[\t\n\x{20}-;=-~\x{80}-\x{fffd}\x{10000}-\x{10ffff}]*$`)

func isFieldOtherwise(text string) bool {
	return len(text) <= 60 && utf8.ValidString(text) && signsOfAField.MatchString(text)
}

func isWordOtherwise(text string) bool {
	return isFieldOtherwise(text) && text != "" && strings.Count(text, "/") == 0
}

func identityOtherwise(x impl.Identity) impl.TextResult {
	lang := isFieldOtherwise(x.Lang) && strings.Count(x.Lang, "/") == 0
	if !isWordOtherwise(x.Category) || !isWordOtherwise(x.Kind) || !lang || !isFieldOtherwise(x.Name) {
		return impl.TextResult{Code: impl.ErrText}
	}
	return impl.TextResult{Text: x.Category + "/" + x.Kind + "/" + x.Lang + "/" + x.Name}
}

// discoFaultOtherwise goes from the last code to the first one.
func discoFaultOtherwise(d impl.Disco) int64 {
	fault := int64(impl.OK)
	met := map[string]bool{}
	meet := func(key string) {
		if met[key] {
			fault = impl.ErrTaken
		}
		met[key] = true
	}
	for _, x := range d.Identities {
		meet("identity " + strconv.Quote(x.Category) + strconv.Quote(x.Kind) + strconv.Quote(x.Lang))
	}
	for _, feature := range d.Features {
		meet("feature " + feature)
	}
	for _, x := range d.Identities {
		if identityOtherwise(x).Code != impl.OK {
			fault = impl.ErrText
		}
	}
	for _, feature := range d.Features {
		if feature == "" || !isFieldOtherwise(feature) {
			fault = impl.ErrText
		}
	}
	if len(d.Identities) > 6 || len(d.Features) > 10 {
		fault = impl.ErrMany
	}
	return fault
}

func capsStringOtherwise(d impl.Disco) impl.TextResult {
	if fault := discoFaultOtherwise(d); fault != impl.OK {
		return impl.TextResult{Code: fault}
	}
	var all []string
	for _, x := range d.Identities {
		all = append(all, identityOtherwise(x).Text)
	}
	slices.Sort(all)
	all = append(all, slices.Sorted(slices.Values(d.Features))...)
	text := ""
	for _, line := range all {
		text += line + "<"
	}
	return impl.TextResult{Text: text}
}

func capsOtherwise(d impl.Disco) impl.TextResult {
	caps := capsStringOtherwise(d)
	if caps.Code != impl.OK {
		return caps
	}
	sum := sha1.Sum([]byte(caps.Text))
	return impl.TextResult{Text: base64.StdEncoding.EncodeToString(sum[:])}
}

// checkDisco is the promise of any disco: its code, its text and its name are
// those that the other ones tell, and the name is that of the text.
func checkDisco(t *testing.T, d impl.Disco) {
	t.Helper()
	fault := discoFaultOtherwise(d)
	if got := impl.DiscoFault(d); got != fault {
		t.Errorf("DiscoFault(%q) = %d, want %d", d, got, fault)
	}
	caps, name := impl.CapsString(d), impl.CapsOf(d)
	if want := capsStringOtherwise(d); caps != want {
		t.Errorf("CapsString(%q) = %+v, want %+v", d, caps, want)
	}
	if want := capsOtherwise(d); name != want {
		t.Errorf("CapsOf(%q) = %+v, want %+v", d, name, want)
	}
	if fault != impl.OK {
		return
	}
	sum := impl.Sha1Of([]byte(caps.Text))
	if of := impl.Base64Of(sum.Bytes); sum.Code != impl.OK || of != name || len(name.Text) != 28 {
		t.Errorf("CapsOf(%q) = %+v, but the Base64Of the Sha1Of the CapsString is %+v", d, name, of)
	}
}

// checkDiscoFault is for discos with a code that is known.
func checkDiscoFault(t *testing.T, name string, d impl.Disco, code int64) {
	t.Helper()
	alone := impl.TextResult{Code: code}
	if got := impl.DiscoFault(d); got != code {
		t.Errorf("%s: DiscoFault(%.300q) = %d, want %d", name, d, got, code)
	}
	if caps, caption := impl.CapsString(d), impl.CapsOf(d); code != impl.OK && (caps != alone || caption != alone) {
		t.Errorf("%s: CapsString and CapsOf tell %+v and %+v, want the code %d alone", name, caps, caption, code)
	}
	checkDisco(t, d)
}

func checkSha1(t *testing.T, data []byte) {
	t.Helper()
	got := impl.Sha1Of(data)
	if len(data) > 3000 {
		if got.Code != impl.ErrMany || len(got.Bytes) != 0 {
			t.Errorf("Sha1Of %d bytes = %v, want ErrMany alone", len(data), got)
		}
		return
	}
	if want := sha1.Sum(data); got.Code != impl.OK || !bytes.Equal(got.Bytes, want[:]) {
		t.Errorf("Sha1Of %d bytes %.100v = %v, want %v", len(data), data, got, want)
	}
}

func checkBase64(t *testing.T, data []byte) {
	t.Helper()
	got := impl.Base64Of(data)
	if len(data) > 3000 {
		if (got != impl.TextResult{Code: impl.ErrMany}) {
			t.Errorf("Base64Of %d bytes = %+v, want ErrMany alone", len(data), got)
		}
		return
	}
	if want := (impl.TextResult{Text: base64.StdEncoding.EncodeToString(data)}); got != want {
		t.Errorf("Base64Of(%.100v) = %+v, want %+v", data, got, want)
	}
	if size := (len(data) + 2) / 3 * 4; len(got.Text) != size {
		t.Errorf("Base64Of %d bytes has %d signs, want %d", len(data), len(got.Text), size)
	}
	if back, err := base64.StdEncoding.Strict().DecodeString(got.Text); err != nil || !bytes.Equal(back, data) {
		t.Errorf("%.200q is read as %.100v (%v), want %.100v", got.Text, back, err, data)
	}
}

// The places in which a field may stand: C for a Category, K for a Kind, L for
// a Lang, N for a Name, F for a Feature.
const placesOfFields = "CKLNF"

// discoWith is a disco with that text in one place. Its IdentityText is told
// where that is a place of an Identity.
func discoWith(place rune, text string) (d impl.Disco, x *impl.Identity) {
	d = impl.Disco{Identities: []impl.Identity{{Category: "c", Kind: "k", Lang: "l", Name: "n"}}, Features: []string{"f"}}
	x = &d.Identities[0]
	switch place {
	case 'C':
		x.Category = text
	case 'K':
		x.Kind = text
	case 'L':
		x.Lang = text
	case 'N':
		x.Name = text
	case 'F':
		d.Features[0] = text
	}
	return d, x
}

// fieldsToKnow are texts, and the places in which they may stand.
var fieldsToKnow = []struct {
	name string
	text string
	fits string
}{
	{"a letter", "x", "CKLNF"},
	{"a great letter", "X", "CKLNF"},
	{"a blank", " ", "CKLNF"},
	{"a tab", "\t", "CKLNF"},
	{"a line feed", "a\n", "CKLNF"},
	{"60 bytes", strings.Repeat("x", 60), "CKLNF"},
	{"60 bytes in points of three", strings.Repeat("\xe2\x82\xac", 20), "CKLNF"},
	{"60 bytes in points of four", strings.Repeat("\xf0\x9f\x98\x80", 15), "CKLNF"},
	{"the point 128", "\xc2\x80", "CKLNF"},
	{"the point 65533", "\xef\xbf\xbd", "CKLNF"},
	{"the point 1114111", "\xf4\x8f\xbf\xbf", "CKLNF"},
	{"other signs that mean something", "&>\"'", "CKLNF"},
	{"a < as it is written", "&lt;", "CKLNF"},
	{"signs beside <", ";=", "CKLNF"},
	{"signs beside /", ".0", "CKLNF"},
	{"another slash", "\\", "CKLNF"},
	{"a / that is no byte", "\xe2\x81\x84", "CKLNF"},
	{"a < that is no byte", "\xef\xbc\x9c", "CKLNF"},

	{"nothing", "", "LN"},
	{"a /", "/", "NF"},
	{"a / ahead", "/x", "NF"},
	{"a / behind", "x/", "NF"},
	{"a / between", "x/y", "NF"},
	{"two /", "x//", "NF"},
	{"60 bytes /", strings.Repeat("/", 60), "NF"},

	{"a <", "<", ""},
	{"a < ahead", "<x", ""},
	{"a < behind", "x<", ""},
	{"a < between", "x<y", ""},
	{"a < behind a /", "/<", ""},
	{"a < at the end of 60 bytes", strings.Repeat("x", 59) + "<", ""},
	{"a < behind 60 bytes", strings.Repeat("x", 60) + "<", ""},
	{"61 bytes", strings.Repeat("x", 61), ""},
	{"63 bytes in points of three", strings.Repeat("\xe2\x82\xac", 21), ""},
	{"very many bytes", strings.Repeat("x", 1<<16), ""},
	{"61 bytes /", strings.Repeat("/", 61), ""},
	{"a byte 0", "\x00", ""},
	{"a byte 0 behind", "x\x00", ""},
	{"a carriage return", "x\r", ""},
	{"a byte 31", "\x1f", ""},
	{"a byte 127", "x\x7f", ""},
	{"a byte 128", "\x80", ""},
	{"a byte 255", "x\xff", ""},
	{"half a point", "x\xe2\x82", ""},
	{"the point 55296", "\xed\xa0\x80", ""},
	{"the point 65534", "\xef\xbf\xbe", ""},
	{"the point 65535", "\xef\xbf\xbf", ""},
	{"0 in two bytes", "\xc0\x80", ""},
	{"/ in two bytes", "\xc0\xaf", ""},
	{"< in two bytes", "\xc0\xbc", ""},
	{"the point 1114112", "\xf4\x90\x80\x80", ""},
}

func identity(words ...string) impl.Identity {
	return impl.Identity{Category: words[0], Kind: words[1], Lang: words[2], Name: words[3]}
}

// identities are Identities by their IdentityText, in which only the Name may
// have a /.
func identities(texts ...string) []impl.Identity {
	var list []impl.Identity
	for _, text := range texts {
		list = append(list, identity(strings.SplitN(text, "/", 4)...))
	}
	return list
}

// manyIdentities are as many as told, and manyFeatures, too.
func manyIdentities(count int) []impl.Identity {
	var list []impl.Identity
	for i := range count {
		list = append(list, impl.Identity{Category: "c", Kind: "k" + strconv.Itoa(i)})
	}
	return list
}

func manyFeatures(count int) []string {
	var list []string
	for i := range count {
		list = append(list, "f"+strconv.Itoa(i))
	}
	return list
}

// discosToKnow are discos with their texts, and their names, which have been
// told by another program.
var discosToKnow = []struct {
	name  string
	disco impl.Disco
	text  string
	caps  string
}{
	{"nothing", impl.Disco{}, "", "2jmj7l5rSw0yVb/vlWAYkK/YBwk="},
	{"empty lists", impl.Disco{Identities: []impl.Identity{}, Features: []string{}}, "", "2jmj7l5rSw0yVb/vlWAYkK/YBwk="},
	{"the example of XEP-0115", impl.Disco{Identities: identities("client/pc//Exodus 0.9.1"), Features: []string{"http://jabber.org/protocol/disco#info", "http://jabber.org/protocol/disco#items", "http://jabber.org/protocol/muc", "http://jabber.org/protocol/caps"}},
		"client/pc//Exodus 0.9.1<http://jabber.org/protocol/caps<http://jabber.org/protocol/disco#info<http://jabber.org/protocol/disco#items<http://jabber.org/protocol/muc<", "QgayPKawpkPSDYmwT/WM94uAlu0="},
	{"an Identity", impl.Disco{Identities: identities("a/b/c/d")}, "a/b/c/d<", "XE5vujTsLOFmAIqUCSRQPvnxplo="},
	{"an empty Lang and an empty Name", impl.Disco{Identities: identities("a/b//")}, "a/b//<", "33Lq6whkbUKNsEoicO8o0HNc2Ew="},
	{"a Name with /", impl.Disco{Identities: identities("a/b//x/y/")}, "a/b//x/y/<", "1iYAWPtm7dPKT1ldVgBG+i2OT5U="},
	{"a Feature", impl.Disco{Features: []string{"f"}}, "f<", "TSPlsipgZTVS1XcG13lX5oUBkE0="},
	{"a Feature that reads as an Identity", impl.Disco{Features: []string{"a/b//"}}, "a/b//<", "33Lq6whkbUKNsEoicO8o0HNc2Ew="},
	{"a Feature that an Identity has for its text", impl.Disco{Identities: identities("a/b//"), Features: []string{"a/b//"}}, "a/b//<a/b//<", "4nmQJOk7zfzzWpZHmZdj/4Maocc="},
	{"an Identity and a Feature", impl.Disco{Identities: identities("a/b//"), Features: []string{"f"}}, "a/b//<f<", "PMjaM2q5VzCMmgxnARoe3fbFu9A="},
	{"two Langs", impl.Disco{Identities: identities("a/b/en/x", "a/b/de/x")}, "a/b/de/x<a/b/en/x<", "vYeO7//vBZ0gIF7OVYAeguy7Z/w="},
	{"a Category that another one begins with", impl.Disco{Identities: identities("a/b//", "a!/b//")}, "a!/b//<a/b//<", "JPTZLao5FJPa/zaulR3EI3AeFko="},
	{"a Kind that another one begins with", impl.Disco{Identities: identities("a/b//", "a/b!//", "a/!//")}, "a/!//<a/b!//<a/b//<", "vpnJYJUa1IOBZLZqN1h+aou5Ncc="},
	{"an empty Lang behind a sign", impl.Disco{Identities: identities("a/b//", "a/b/-//")}, "a/b/-//<a/b//<", "oOuHPSEUCM7ejV5JZeYgpdrdV6o="},
	{"an empty Lang behind a sign, and a Name", impl.Disco{Identities: identities("a/b//", "a/b/!/x")}, "a/b/!/x<a/b//<", "BzXtspfeUt6sLkQAsARIXSVjAJo="},
	{"a tab and a line feed", impl.Disco{Identities: identities("a/c//\n", "a/b//\t")}, "a/b//\t<a/c//\n<", "nPk1Xilv09fHDe+/PGTJ3fxouNA="},
	{"Features that another one begins with", impl.Disco{Features: []string{"aa", "a;", "a/", "a\n", "a", "a=", "A", "a\t", "a!", "a "}}, "A<a<a\t<a\n<a <a!<a/<a;<a=<aa<", "gja6DiLxY/fSd+QTo4kDESKt1Zw="},
	{"Features in the order of their bytes", impl.Disco{Features: []string{"\xf0\x90\x80\x80", "\xef\xbf\xbd", "\xef\xbf\xaf", "\xc3\xa9", "z"}}, "z<\xc3\xa9<\xef\xbf\xaf<\xef\xbf\xbd<\xf0\x90\x80\x80<", "eqdEWANWyNT5QuPuxYCxg78TvpA="},
	{"great letters ahead", impl.Disco{Identities: identities("a/a//", "a/B//", "B/a//")}, "B/a//<a/B//<a/a//<", "9vpuDx8/EyRy5d1orGpGCvpQM5I="},
}

var tooLong = strings.Repeat("x", 61)

// discoFaults are discos by their codes.
var discoFaults = []choice[impl.Disco]{
	{"6 Identities", impl.Disco{Identities: manyIdentities(6)}, impl.OK},
	{"7 Identities", impl.Disco{Identities: manyIdentities(7)}, impl.ErrMany},
	{"10 Features", impl.Disco{Features: manyFeatures(10)}, impl.OK},
	{"11 Features", impl.Disco{Features: manyFeatures(11)}, impl.ErrMany},
	{"6 Identities and 10 Features", impl.Disco{Identities: manyIdentities(6), Features: manyFeatures(10)}, impl.OK},
	{"7 Identities and 10 Features", impl.Disco{Identities: manyIdentities(7), Features: manyFeatures(10)}, impl.ErrMany},
	{"6 Identities and 11 Features", impl.Disco{Identities: manyIdentities(6), Features: manyFeatures(11)}, impl.ErrMany},
	{"7 Identities and 11 Features", impl.Disco{Identities: manyIdentities(7), Features: manyFeatures(11)}, impl.ErrMany},
	{"very many Identities", impl.Disco{Identities: make([]impl.Identity, 1<<16)}, impl.ErrMany},
	{"very many Features", impl.Disco{Features: make([]string, 1<<16)}, impl.ErrMany},
	{"7 Identities that are nothing", impl.Disco{Identities: make([]impl.Identity, 7)}, impl.ErrMany},
	{"11 Features that are nothing", impl.Disco{Features: make([]string, 11)}, impl.ErrMany},
	{"a wrong Identity and 11 Features", impl.Disco{Identities: identities("<///"), Features: manyFeatures(11)}, impl.ErrMany},
	{"two Identities alike and 11 Features", impl.Disco{Identities: identities("a/b//", "a/b//"), Features: manyFeatures(11)}, impl.ErrMany},
	{"a wrong Feature and 7 Identities", impl.Disco{Identities: manyIdentities(7), Features: []string{""}}, impl.ErrMany},

	{"an Identity that is nothing", impl.Disco{Identities: make([]impl.Identity, 1)}, impl.ErrText},
	{"two Identities that are nothing", impl.Disco{Identities: make([]impl.Identity, 2)}, impl.ErrText},
	{"two Features that are nothing", impl.Disco{Features: make([]string, 2)}, impl.ErrText},
	{"a Feature that is too long", impl.Disco{Features: []string{tooLong}}, impl.ErrText},
	{"the last Identity wrong", impl.Disco{Identities: append(manyIdentities(5), identity("a", "b", "c", "<"))}, impl.ErrText},
	{"the last Feature wrong", impl.Disco{Features: append(manyFeatures(9), "<")}, impl.ErrText},
	{"two Identities alike, then a wrong one", impl.Disco{Identities: identities("a/b//", "a/b//", "a/<//")}, impl.ErrText},
	{"a wrong Identity, then two alike", impl.Disco{Identities: identities("/b//", "a/b//", "a/b//")}, impl.ErrText},
	{"two wrong Identities alike", impl.Disco{Identities: identities("a/b/<l/", "a/b/<l/")}, impl.ErrText},
	{"two Identities alike, one with a wrong Name", impl.Disco{Identities: identities("a/b//", "a/b//<")}, impl.ErrText},
	{"two Identities alike, and a wrong Feature", impl.Disco{Identities: identities("a/b//", "a/b//"), Features: []string{"f", ""}}, impl.ErrText},
	{"two Features alike, and a wrong Identity", impl.Disco{Identities: identities("a/b//", "a/b//"+tooLong), Features: []string{"f", "f"}}, impl.ErrText},
	{"two Features alike, then a wrong one", impl.Disco{Features: []string{"f", "f", "\x00"}}, impl.ErrText},
	{"a wrong Feature, then two alike", impl.Disco{Features: []string{"\xff", "f", "f"}}, impl.ErrText},
	{"two wrong Features alike", impl.Disco{Features: []string{"<", "<"}}, impl.ErrText},

	{"two Identities that are the same", impl.Disco{Identities: identities("a/b/c/d", "a/b/c/d")}, impl.ErrTaken},
	{"two Identities that differ in their Name", impl.Disco{Identities: identities("a/b/c/d", "a/b/c/e")}, impl.ErrTaken},
	{"two Identities, one without a Name", impl.Disco{Identities: identities("a/b/c/", "a/b/c/d")}, impl.ErrTaken},
	{"an IdentityText that another one begins with", impl.Disco{Identities: identities("a/b//x", "a/b//x/y")}, impl.ErrTaken},
	{"two Identities without a Lang and a Name", impl.Disco{Identities: identities("a/b//", "a/b//")}, impl.ErrTaken},
	{"two Features that are the same", impl.Disco{Features: []string{"f", "f"}}, impl.ErrTaken},
	{"two Features alike at the ends", impl.Disco{Features: append(manyFeatures(9), "f0")}, impl.ErrTaken},
	{"two Identities alike at the ends", impl.Disco{Identities: append(manyIdentities(5), identity("c", "k0", "", "n"))}, impl.ErrTaken},
	{"two Identities and two Features alike", impl.Disco{Identities: identities("a/b//", "a/b//"), Features: []string{"f", "f"}}, impl.ErrTaken},
	{"ten Features alike", impl.Disco{Features: slices.Repeat([]string{"f"}, 10)}, impl.ErrTaken},
	{"six Identities alike", impl.Disco{Identities: slices.Repeat(identities("a/b//"), 6)}, impl.ErrTaken},

	{"two Identities that differ in their Category", impl.Disco{Identities: identities("a/b/c/d", "x/b/c/d")}, impl.OK},
	{"two Identities that differ in their Kind", impl.Disco{Identities: identities("a/b/c/d", "a/x/c/d")}, impl.OK},
	{"two Identities that differ in their Lang", impl.Disco{Identities: identities("a/b/c/d", "a/b/x/d")}, impl.OK},
	{"two Identities, one without a Lang", impl.Disco{Identities: identities("a/b/c/d", "a/b//d")}, impl.OK},
	{"words that are cut elsewhere", impl.Disco{Identities: identities("ab/c/d/", "a/bc/d/", "ab/cd//", "abc/d//")}, impl.OK},
	{"words in another order", impl.Disco{Identities: identities("a/b/c/", "b/a/c/", "c/b/a/", "a/c/b/")}, impl.OK},
	{"a Lang that is another one's Name", impl.Disco{Identities: identities("a/b/c/", "a/b//c")}, impl.OK},
	{"great and small letters", impl.Disco{Identities: identities("a/b//", "A/b//", "a/B//"), Features: []string{"f", "F"}}, impl.OK},
	{"a blank behind", impl.Disco{Identities: identities("a/b//", "a/b //"), Features: []string{"f", "f "}}, impl.OK},
	{"one point in two forms", impl.Disco{Features: []string{"\xc3\xa9", "e\xcc\x81"}}, impl.OK},
}

func TestConstantsOfChapter9(t *testing.T) {
	if impl.MaxIdentities != 6 || impl.MaxFeatures != 10 {
		t.Error("MaxIdentities or MaxFeatures is another one")
	}
}

func TestFieldsInEachPlace(t *testing.T) {
	for _, field := range fieldsToKnow {
		for _, place := range placesOfFields {
			d, x := discoWith(place, field.text)
			code := codeIf(impl.ErrText, !strings.ContainsRune(field.fits, place))
			checkDiscoFault(t, field.name+" at "+string(place), d, code)
			want := impl.TextResult{Text: x.Category + "/" + x.Kind + "/" + x.Lang + "/" + x.Name}
			if code != impl.OK && place != 'F' {
				want = impl.TextResult{Code: impl.ErrText}
			}
			if got := impl.IdentityText(*x); got != want {
				t.Errorf("%s at %c: IdentityText(%.300q) = %+v, want %+v", field.name, place, *x, got, want)
			}
		}
	}
}

func TestBytesThatAreNoPointInEachPlace(t *testing.T) {
	for name, text := range noPoint {
		for _, place := range placesOfFields {
			for _, with := range []string{text, "x" + text, text + "x"} {
				d, _ := discoWith(place, with)
				checkDiscoFault(t, name, d, impl.ErrText)
			}
		}
	}
}

func TestBytesInEachPlace(t *testing.T) {
	for b := range 256 {
		for _, with := range []string{string([]byte{byte(b)}), "x" + string([]byte{byte(b)}), string([]byte{byte(b)}) + "x", string(rune(b))} {
			for _, place := range placesOfFields {
				d, x := discoWith(place, with)
				checkDisco(t, d)
				if got, want := impl.IdentityText(*x), identityOtherwise(*x); got != want {
					t.Errorf("IdentityText(%q) = %+v, want %+v", *x, got, want)
				}
			}
		}
	}
}

func TestPointsInAField(t *testing.T) {
	for point := int64(0); point <= 1114111; point++ {
		text := "x" + formOf(point)
		x := impl.Identity{Category: "a", Kind: "b", Name: text}
		want := impl.TextResult{Text: "a/b//" + text}
		if !impl.IsChar(point) || point == '<' {
			want = impl.TextResult{Code: impl.ErrText}
		}
		if got := impl.IdentityText(x); got != want {
			t.Fatalf("IdentityText(%q) = %+v, want %+v", x, got, want)
		}
	}
}

func TestIdentitiesOfAllFields(t *testing.T) {
	var texts []string
	for _, field := range fieldsToKnow {
		if len(field.text) < 100 && len(texts) < 40 {
			texts = append(texts, field.text)
		}
	}
	texts = append(texts, "\x00", "\xff")
	few := []string{"", "x", "/", "<", "x/", tooLong, "\x00", "\n"}
	check := func(words ...string) {
		x := identity(words...)
		if got, want := impl.IdentityText(x), identityOtherwise(x); got != want {
			t.Errorf("IdentityText(%q) = %+v, want %+v", x, got, want)
		}
	}
	for _, a := range texts {
		for _, b := range texts {
			for _, c := range few {
				for _, d := range few {
					check(a, b, c, d)
					check(c, a, b, d)
					check(c, d, a, b)
				}
			}
		}
	}
}

func TestDiscosToKnow(t *testing.T) {
	for _, x := range discosToKnow {
		if got := impl.DiscoFault(x.disco); got != impl.OK {
			t.Errorf("%s: DiscoFault tells %d", x.name, got)
		}
		if got := impl.CapsString(x.disco); (got != impl.TextResult{Text: x.text}) {
			t.Errorf("%s: CapsString tells %+v, want %q", x.name, got, x.text)
		}
		if got := impl.CapsOf(x.disco); (got != impl.TextResult{Text: x.caps}) {
			t.Errorf("%s: CapsOf tells %+v, want %q", x.name, got, x.caps)
		}
		checkDisco(t, x.disco)
	}
}

func TestDiscoFaults(t *testing.T) {
	for _, x := range discoFaults {
		checkDiscoFault(t, x.name, x.value, x.code)
	}
}

func TestCountsOfADisco(t *testing.T) {
	for first := range 9 {
		for second := range 13 {
			code := codeIf(impl.ErrMany, first > 6 || second > 10)
			d := impl.Disco{Identities: manyIdentities(first), Features: manyFeatures(second)}
			checkDiscoFault(t, "all right", d, code)
			if first > 1 {
				d.Identities[first-1] = d.Identities[0]
				checkDiscoFault(t, "two Identities alike", d, firstOf(code, impl.ErrTaken))
			}
			if second > 1 {
				d.Features[second-1] = d.Features[0]
				checkDiscoFault(t, "two Features alike", d, firstOf(code, impl.ErrTaken))
			}
			if first > 0 {
				d.Identities[0].Name = "<"
				checkDiscoFault(t, "a wrong Identity", d, firstOf(code, impl.ErrText))
			}
			if second > 0 {
				d.Identities = manyIdentities(first)
				d.Features[0] = ""
				checkDiscoFault(t, "a wrong Feature", d, firstOf(code, impl.ErrText))
			}
		}
	}
}

// Each one of a full disco is wrong in each place.
func TestEachOneOfADiscoWrong(t *testing.T) {
	for _, text := range []string{"<", "", "/", tooLong, "\x00", "\xe2\x82"} {
		for at := range 6 {
			for _, place := range "CKLN" {
				d := impl.Disco{Identities: manyIdentities(6), Features: manyFeatures(10)}
				_, x := discoWith(place, text)
				d.Identities[at] = *x
				checkDiscoFault(t, "an Identity", d, identityOtherwise(*x).Code)
			}
		}
		for at := range 10 {
			d := impl.Disco{Identities: manyIdentities(6), Features: manyFeatures(10)}
			d.Features[at] = text
			checkDiscoFault(t, "a Feature", d, codeIf(impl.ErrText, text != "/"))
		}
	}
}

// Any two of a full disco are alike.
func TestEachTwoOfADiscoAlike(t *testing.T) {
	full := func() impl.Disco {
		return impl.Disco{Identities: manyIdentities(6), Features: manyFeatures(10)}
	}
	for a := range 6 {
		for b := range a {
			for _, name := range []string{"", "n", "/"} {
				d := full()
				d.Identities[a] = d.Identities[b]
				d.Identities[a].Name = name
				checkDiscoFault(t, "two Identities", d, impl.ErrTaken)
				d.Identities[a].Lang = "l"
				checkDiscoFault(t, "two Identities of two Langs", d, impl.OK)
				d.Identities[b].Lang = "l"
				checkDiscoFault(t, "two Identities of one Lang", d, impl.ErrTaken)
				d.Identities[b].Category = "C"
				checkDiscoFault(t, "two Identities of two Categories", d, impl.OK)
			}
		}
	}
	for a := range 10 {
		for b := range a {
			d := full()
			d.Features[a] = d.Features[b]
			checkDiscoFault(t, "two Features", d, impl.ErrTaken)
			d.Features[a] += " "
			checkDiscoFault(t, "a Feature that another one begins with", d, impl.OK)
		}
	}
}

// eachOrder tells a list in each of its orders.
func eachOrder[T any](list []T, tell func(order []T)) {
	var order func(chosen, left []T)
	order = func(chosen, left []T) {
		if len(left) == 0 {
			tell(chosen)
		}
		for i, x := range left {
			order(append(slices.Clip(chosen), x), slices.Delete(slices.Clone(left), i, i+1))
		}
	}
	order(nil, list)
}

// checkSameName asks that of a disco told otherwise all is as it was.
func checkSameName(t *testing.T, d impl.Disco, want, name impl.TextResult) {
	t.Helper()
	if got, caption := impl.CapsString(d), impl.CapsOf(d); got != want || caption != name {
		t.Errorf("%q has the text %+v and the name %+v, want %+v and %+v", d, got, caption, want, name)
	}
}

func TestDiscosInEachOrder(t *testing.T) {
	for _, texts := range [][]string{
		{"a/b//", "a!/b//", "a/b!//", "a/b/!/", "A/b//", "a/B//"},
		{"a/b/de/x", "a/b/en/x", "a/b/en-us/x", "a/b//x", "a/b/de /x", "a/c/de/x"},
		{"z/z/z/z", "y/z/z/z", "z/y/z/z", "z/z/y/z", "zz/z/z/z", "z/zz/z/z"},
	} {
		for count := range len(texts) + 1 {
			d := impl.Disco{Identities: identities(texts[:count]...), Features: []string{"g", "f"}}
			want, name := capsStringOtherwise(d), capsOtherwise(d)
			eachOrder(d.Identities, func(order []impl.Identity) {
				checkSameName(t, impl.Disco{Identities: order, Features: []string{"f", "g"}}, want, name)
				checkSameName(t, impl.Disco{Identities: order, Features: []string{"g", "f"}}, want, name)
			})
		}
	}
	for _, features := range [][]string{
		{"a", "aa", "a ", "a;", "a=", "a\n", "b"},
		{"http://a", "http://a/", "http://a/b", "http://a/b#c", "http://a/b#", "urn:a", "HTTP://a"},
		{"\xef\xbf\xbd", "\xf0\x90\x80\x80", "\xc2\x80", "~", "z", "\xed\x9f\xbf", "\xee\x80\x80"},
	} {
		for count := range len(features) + 1 {
			d := impl.Disco{Identities: identities("b/a//", "a/b//"), Features: features[:count]}
			want, name := capsStringOtherwise(d), capsOtherwise(d)
			eachOrder(d.Features, func(order []string) {
				checkSameName(t, impl.Disco{Identities: d.Identities, Features: order}, want, name)
			})
		}
	}
}

// Whatever order stands ahead, ten Features come out in one.
func TestFullDiscosInManyOrders(t *testing.T) {
	from := rand.New(rand.NewSource(13))
	d := impl.Disco{Identities: manyIdentities(6), Features: manyFeatures(10)}
	want, name := capsStringOtherwise(d), capsOtherwise(d)
	for range 20000 {
		from.Shuffle(6, func(i, k int) { d.Identities[i], d.Identities[k] = d.Identities[k], d.Identities[i] })
		from.Shuffle(10, func(i, k int) { d.Features[i], d.Features[k] = d.Features[k], d.Features[i] })
		checkSameName(t, d, want, name)
	}
}

var wordsOfDiscos = []string{"a", "b", "A", "aa", "a!", "a ", "!", "-", ".", "0", "\t", "\n", ";", "=", "~", "\xc3\xa9", "\xf0\x9f\x98\x80"}

// someDisco is seldom wrong, and often has things that begin alike. The fewer
// its words are, the sooner two things are alike.
func someDisco(from *rand.Rand) impl.Disco {
	few := wordsOfDiscos[:1+from.Intn(len(wordsOfDiscos))]
	word := func(others ...string) string {
		words := append(slices.Clone(others), few...)
		text := words[from.Intn(len(words))]
		if from.Intn(3) == 0 {
			text += few[from.Intn(len(few))]
		}
		if from.Intn(200) == 0 {
			text += []string{"<", "/", "\x00", "\xff", strings.Repeat("x", 60)}[from.Intn(5)]
		}
		return text
	}
	var d impl.Disco
	for range from.Intn(7) {
		d.Identities = append(d.Identities, identity(word(), word(), word("", "", ""), word("", "/", "a/")))
	}
	for range from.Intn(11) {
		d.Features = append(d.Features, word("/", "a/", "/a")+word(""))
	}
	return d
}

func TestDiscosAtRandom(t *testing.T) {
	from := rand.New(rand.NewSource(14))
	codes := map[int64]int{}
	for range 60000 {
		d := someDisco(from)
		checkDisco(t, d)
		codes[discoFaultOtherwise(d)]++
	}
	if codes[impl.OK] < 10000 || codes[impl.ErrText] < 1000 || codes[impl.ErrTaken] < 1000 {
		t.Errorf("there are too few of some codes: %v", codes)
	}
}

// Who can do something else has another text, and another name.
func TestDiscosThatDiffer(t *testing.T) {
	met := map[string]impl.Disco{}
	check := func(d impl.Disco) {
		checkDisco(t, d)
		name := impl.CapsOf(d).Text
		if other, ok := met[name]; ok {
			t.Errorf("%q and %q have the name %q", d, other, name)
		}
		met[name] = d
	}
	texts := []string{"a/b//", "a/b//x", "a/b/x/", "a/x//", "x/b//", "b/a//", "a/b// ", "a/b///"}
	features := []string{"a", "b", "ab", "a ", " a", "A", "a/", "/a", "a\n", "\xc3\xa9"}
	for chosen := range 1 << len(features) {
		var d impl.Disco
		for i, feature := range features {
			if chosen>>i&1 == 1 {
				d.Features = append(d.Features, feature)
			}
		}
		check(d)
		for _, text := range texts {
			check(impl.Disco{Identities: identities(text), Features: d.Features})
		}
	}
}

// The longest text that there can be has 2074 bytes, and has a name.
func TestTheLongestDisco(t *testing.T) {
	var d impl.Disco
	for i := range 6 {
		long := strings.Repeat("x", 59) + strconv.Itoa(9-i)
		d.Identities = append(d.Identities, identity(long, long, long, strings.Repeat("/", 60)))
	}
	for i := range 10 {
		d.Features = append(d.Features, strconv.Itoa(9-i)+strings.Repeat("x", 59))
	}
	checkDisco(t, d)
	if got := impl.CapsString(d); got.Code != impl.OK || len(got.Text) != 6*244+10*61 {
		t.Errorf("the text has %d bytes, and the code %d", len(got.Text), got.Code)
	}
	if got := impl.CapsOf(d); got.Code != impl.OK || len(got.Text) != 28 {
		t.Errorf("the name is %+v", got)
	}
}

// digestsToKnow are told by the standard, or by another program.
var digestsToKnow = []struct {
	name   string
	data   []byte
	digest string
}{
	{"no bytes", nil, "da39a3ee5e6b4b0d3255bfef95601890afd80709"},
	{"an empty list", []byte{}, "da39a3ee5e6b4b0d3255bfef95601890afd80709"},
	{"abc", []byte("abc"), "a9993e364706816aba3e25717850c26c9cd0d89d"},
	{"56 letters", []byte("abcdbcdecdefdefgefghfghighijhijkijkljklmklmnlmnomnopnopq"), "84983e441c3bd26ebaae4aa1f95129e5e54670f1"},
	{"112 letters", []byte("abcdefghbcdefghicdefghijdefghijkefghijklfghijklmghijklmnhijklmnoijklmnopjklmnopqklmnopqrlmnopqrsmnopqrstnopqrstu"), "a49b2446a02c645bf419f995b67091253a04a259"},
	{"a sentence", []byte("The quick brown fox jumps over the lazy dog"), "2fd4e1c67a2d28fced849ee1bb76e7391b93eb12"},
	{"every byte", everyByte(), "4916d6bdb7f78e6803698cab32d1586ea457dfc8"},
	{"1 a", bytes.Repeat([]byte("a"), 1), "86f7e437faa5a7fce15d1ddcb9eaeaea377667b8"},
	{"54 a", bytes.Repeat([]byte("a"), 54), "b05d71c64979cb95fa74a33cdb31a40d258ae02e"},
	{"55 a", bytes.Repeat([]byte("a"), 55), "c1c8bbdc22796e28c0e15163d20899b65621d65a"},
	{"56 a", bytes.Repeat([]byte("a"), 56), "c2db330f6083854c99d4b5bfb6e8f29f201be699"},
	{"57 a", bytes.Repeat([]byte("a"), 57), "f08f24908d682555111be7ff6f004e78283d989a"},
	{"63 a", bytes.Repeat([]byte("a"), 63), "03f09f5b158a7a8cdad920bddc29b81c18a551f5"},
	{"64 a", bytes.Repeat([]byte("a"), 64), "0098ba824b5c16427bd7a1122a5a442a25ec644d"},
	{"65 a", bytes.Repeat([]byte("a"), 65), "11655326c708d70319be2610e8a57d9a5b959d3b"},
	{"119 a", bytes.Repeat([]byte("a"), 119), "ee971065aaa017e0632a8ca6c77bb3bf8b1dfc56"},
	{"120 a", bytes.Repeat([]byte("a"), 120), "f34c1488385346a55709ba056ddd08280dd4c6d6"},
	{"121 a", bytes.Repeat([]byte("a"), 121), "fa6b5a6f8ac27182f838fe7841ec6d2aef3ade29"},
	{"127 a", bytes.Repeat([]byte("a"), 127), "89d95fa32ed44a7c610b7ee38517ddf57e0bb975"},
	{"128 a", bytes.Repeat([]byte("a"), 128), "ad5b3fdbcb526778c2839d2f151ea753995e26a0"},
	{"129 a", bytes.Repeat([]byte("a"), 129), "d96debf1bdcbc896e6c134ea76e8141f40d78536"},
	{"183 a", bytes.Repeat([]byte("a"), 183), "021fedbd6b884e3cdd89d7477ffe852155c37456"},
	{"184 a", bytes.Repeat([]byte("a"), 184), "2a4c545628c4875631e342e101f8af11cf48d252"},
	{"3000 a", bytes.Repeat([]byte("a"), 3000), "00dc3a91d5ec3983f907020d265e10bb036a1ba2"},
	{"1 byte 0", make([]byte, 1), "5ba93c9db0cff93f52b521d7420e43f6eda2784f"},
	{"20 bytes 0", make([]byte, 20), "6768033e216468247bd031a0a2d9876d79818f8f"},
	{"55 bytes 0", make([]byte, 55), "8e8832c642a6a38c74c17fc92ccedc266c108e6c"},
	{"56 bytes 0", make([]byte, 56), "9438e360f578e12c0e0e8ed28e2c125c1cefee16"},
	{"64 bytes 0", make([]byte, 64), "c8d7d0ef0eedfa82d2ea1aa592845b9a6d4b02b7"},
	{"3000 bytes 0", make([]byte, 3000), "790fecb4d723abefd9f4e167f19eb7e583aafe04"},
	{"3000 bytes 255", bytes.Repeat([]byte{255}, 3000), "f099586ad17a8d59f21a33d14c54b8032a66166f"},
	{"64 bytes 128", bytes.Repeat([]byte{128}, 64), "0cc1589e44da9e608c92c07e8966e94fb9270492"},
}

func everyByte() []byte {
	data := make([]byte, 256)
	for i := range data {
		data[i] = byte(i)
	}
	return data
}

func TestDigestsToKnow(t *testing.T) {
	for _, x := range digestsToKnow {
		if got := impl.Sha1Of(x.data); got.Code != impl.OK || len(got.Bytes) != 20 || hex.EncodeToString(got.Bytes) != x.digest {
			t.Errorf("%s: Sha1Of tells %v, want %s", x.name, got, x.digest)
		}
		checkSha1(t, x.data)
	}
}

func TestDigestsOfEachSize(t *testing.T) {
	from := rand.New(rand.NewSource(15))
	some := make([]byte, 3001)
	from.Read(some)
	for size := range 3002 {
		checkSha1(t, some[:size])
		checkSha1(t, some[len(some)-size:])
		checkSha1(t, make([]byte, size))
		checkSha1(t, bytes.Repeat([]byte{128}, size))
		checkSha1(t, bytes.Repeat([]byte{255}, size))
	}
}

func TestDataOfMoreThan3000Bytes(t *testing.T) {
	for _, size := range []int{3001, 3002, 3008, 3064, 4096, 6000, 1 << 16, 1<<16 + 1, 1 << 20} {
		data := make([]byte, size)
		checkSha1(t, data)
		checkBase64(t, data)
		checkSha1(t, data[:3000])
		checkBase64(t, data[:3000])
	}
}

// A digest turns with each bit of what it is told of.
func TestDigestsWithOneBitTurned(t *testing.T) {
	from := rand.New(rand.NewSource(16))
	for _, size := range []int{1, 20, 55, 56, 63, 64, 65, 120, 130} {
		data := make([]byte, size)
		from.Read(data)
		met := map[string]bool{string(impl.Sha1Of(data).Bytes): true}
		for bit := range 8 * size {
			data[bit/8] ^= 1 << (bit % 8)
			checkSha1(t, data)
			digest := string(impl.Sha1Of(data).Bytes)
			if met[digest] {
				t.Errorf("two of the same size have the digest %x", digest)
			}
			met[digest] = true
			data[bit/8] ^= 1 << (bit % 8)
		}
	}
}

// What fills a block is not what stands there already.
func TestDigestsOfDataThatEndsAsABlockDoes(t *testing.T) {
	for size := range 140 {
		data := bytes.Repeat([]byte("a"), size)
		filled := append(slices.Clone(data), 128)
		for len(filled)%64 != 56 {
			filled = append(filled, 0)
		}
		filled = append(filled, 0, 0, 0, 0, 0, 0, byte(8*size>>8), byte(8*size))
		checkSha1(t, data)
		checkSha1(t, filled)
		if bytes.Equal(impl.Sha1Of(data).Bytes, impl.Sha1Of(filled).Bytes) {
			t.Errorf("%d bytes have the digest of their blocks", size)
		}
	}
}

func TestBase64ToKnow(t *testing.T) {
	for data, text := range map[string]string{
		"": "", "f": "Zg==", "fo": "Zm8=", "foo": "Zm9v", "foob": "Zm9vYg==", "fooba": "Zm9vYmE=", "foobar": "Zm9vYmFy",
		"Ma": "TWE=", "Man": "TWFu", "\x00": "AA==", "\x00\x00": "AAA=", "\x00\x00\x00": "AAAA", "\xff": "/w==", "\xff\xff": "//8=", "\xff\xff\xff": "////",
		"\xfb": "+w==", "\xfb\xef\xbe": "++++", "\x00\x10\x83": "ABCD", "\xff\x00": "/wA=", "\x00\xff": "AP8=", "\x00\x00\xff": "AAD/",
	} {
		if got := impl.Base64Of([]byte(data)); (got != impl.TextResult{Text: text}) {
			t.Errorf("Base64Of(%q) = %+v, want %q", data, got, text)
		}
	}
	signs := "ABCDEFGHIJKLMNOPQRSTUVWXYZabcdefghijklmnopqrstuvwxyz0123456789+/"
	for n := range 64 {
		data := []byte{byte(n << 2), byte(n << 4), byte(n << 6)}
		data[0] |= byte(n >> 4)
		data[1] |= byte(n >> 2)
		data[2] |= byte(n)
		if got, want := impl.Base64Of(data), strings.Repeat(signs[n:n+1], 4); (got != impl.TextResult{Text: want}) {
			t.Errorf("Base64Of(%v) = %+v, want %q", data, got, want)
		}
	}
	if got := impl.Base64Of(nil); (got != impl.TextResult{}) {
		t.Errorf("Base64Of(nil) = %+v", got)
	}
}

func TestBase64OfEachBytes(t *testing.T) {
	for a := range 256 {
		checkBase64(t, []byte{byte(a)})
		checkBase64(t, bytes.Repeat([]byte{byte(a)}, 3000))
		for b := range 256 {
			checkBase64(t, []byte{byte(a), byte(b)})
			checkBase64(t, []byte{byte(a), byte(b), byte(a + b)})
			checkBase64(t, []byte{byte(a), 0, byte(b)})
		}
	}
	checkBase64(t, everyByte())
}

func TestBase64OfEachSize(t *testing.T) {
	from := rand.New(rand.NewSource(17))
	some := make([]byte, 3001)
	from.Read(some)
	for size := range 3002 {
		checkBase64(t, some[:size])
		checkBase64(t, some[len(some)-size:])
		checkBase64(t, make([]byte, size))
		checkBase64(t, bytes.Repeat([]byte{255}, size))
	}
}

func TestAnswersOfChapter9AreNewMemory(t *testing.T) {
	var kept [][]byte
	for _, x := range digestsToKnow {
		data := slices.Clone(x.data)
		got := impl.Sha1Of(data).Bytes
		fill(got, 170)
		if !bytes.Equal(data, x.data) {
			t.Errorf("%s: what is written into an answer shows in its argument", x.name)
		}
		if again := impl.Sha1Of(data).Bytes; hex.EncodeToString(again) != x.digest {
			t.Errorf("%s: Sha1Of tells %x at the second call", x.name, again)
		}
		kept = append(kept, got)
	}
	for _, x := range discosToKnow {
		checkDisco(t, x.disco)
	}
	checkFilled(t, kept, 170)
}

// Answers stay as they are when what they were told of turns.
func TestAnswersOfChapter9DoNotTurnWithArguments(t *testing.T) {
	for _, x := range digestsToKnow {
		data := slices.Clone(x.data)
		digest, text := impl.Sha1Of(data), impl.Base64Of(data)
		fill(data, 170)
		impl.Sha1Of(data)
		if hex.EncodeToString(digest.Bytes) != x.digest || text.Text != base64.StdEncoding.EncodeToString(x.data) {
			t.Errorf("%s: an answer turns with its argument", x.name)
		}
	}
	for _, x := range discosToKnow {
		d := impl.Disco{Identities: slices.Clone(x.disco.Identities), Features: slices.Clone(x.disco.Features)}
		text, caps := impl.CapsString(d), impl.CapsOf(d)
		fill(d.Identities, identity("?", "?", "?", "?"))
		fill(d.Features, "?")
		impl.CapsString(d)
		impl.CapsOf(d)
		if text.Text != x.text || caps.Text != x.caps {
			t.Errorf("%s: an answer turns with its argument", x.name)
		}
		if got := impl.CapsString(x.disco); got.Text != x.text {
			t.Errorf("%s: CapsString tells %q at a later call", x.name, got.Text)
		}
	}
}

// behindEnd is list with room behind its end, in which with stands.
func behindEnd[T any](list []T, with T) []T {
	whole := append(slices.Clone(list), slices.Repeat([]T{with}, 80)...)
	return whole[:len(list)]
}

// Arguments have more memory behind their ends, and this stays as it is, too.
func TestChapter9ChangesNoArgument(t *testing.T) {
	var discos []impl.Disco
	for _, x := range discosToKnow {
		discos = append(discos, x.disco)
	}
	for _, x := range discoFaults {
		discos = append(discos, x.value)
	}
	for _, x := range discos {
		d := impl.Disco{Identities: behindEnd(x.Identities, identity("z", "y", "x", "w")), Features: behindEnd(x.Features, "z")}
		first, second := slices.Clone(d.Identities[:cap(d.Identities)]), slices.Clone(d.Features[:cap(d.Features)])
		impl.DiscoFault(d)
		impl.CapsString(d)
		impl.CapsOf(d)
		if !slices.Equal(d.Identities[:cap(d.Identities)], first) || !slices.Equal(d.Features[:cap(d.Features)], second) {
			t.Errorf("%.300q has been changed", x)
		}
		if len(x.Identities) > 0 && d.Identities[0] != x.Identities[0] {
			t.Errorf("%.300q stands in another order", x)
		}
	}
	for _, x := range digestsToKnow {
		data := behindEnd(x.data, 129)
		before := slices.Clone(data[:cap(data)])
		impl.Sha1Of(data)
		impl.Base64Of(data)
		if !bytes.Equal(data[:cap(data)], before) {
			t.Errorf("%s: the bytes have been changed", x.name)
		}
		// What stands behind the end is none of the data.
		if got := impl.Sha1Of(data); hex.EncodeToString(got.Bytes) != x.digest {
			t.Errorf("%s: Sha1Of tells %v of bytes with others behind them", x.name, got)
		}
		checkBase64(t, data)
	}
}

// A disco that is wrong, wherever that is, changes nothing of what the next one
// says; nor does one that is not.
func TestNothingIsKeptFromDiscoToDisco(t *testing.T) {
	for _, x := range discosToKnow {
		for _, other := range discoFaults {
			impl.CapsOf(other.value)
			if got := impl.CapsOf(x.disco); got.Text != x.caps {
				t.Errorf("%s behind %s: CapsOf tells %+v", x.name, other.name, got)
			}
			if got := impl.CapsString(other.value).Code; got != other.code {
				t.Errorf("%s behind %s: CapsString tells the code %d", other.name, x.name, got)
			}
		}
		for _, other := range digestsToKnow {
			impl.Sha1Of(other.data)
			if got := impl.CapsOf(x.disco); got.Text != x.caps {
				t.Errorf("%s behind %s: CapsOf tells %+v", x.name, other.name, got)
			}
			if got := impl.Sha1Of(other.data); hex.EncodeToString(got.Bytes) != other.digest {
				t.Errorf("%s behind %s: Sha1Of tells %v", other.name, x.name, got)
			}
		}
	}
}

func TestAnswersOfChapter9HangOnArgumentsAlone(t *testing.T) {
	var all sync.WaitGroup
	for range 8 {
		all.Go(func() {
			for i := range 300 {
				x, y, z := discosToKnow[i%len(discosToKnow)], digestsToKnow[i%len(digestsToKnow)], discoFaults[i%len(discoFaults)]
				if impl.DiscoFault(z.value) != z.code || impl.CapsOf(z.value).Code != z.code || impl.IdentityText(impl.Identity{}).Code != impl.ErrText || impl.Sha1Of(make([]byte, 3001)).Code != impl.ErrMany || impl.Base64Of(make([]byte, 3001)).Code != impl.ErrMany {
					t.Error("a fault is told otherwise at a later call")
				}
				if impl.CapsString(x.disco).Text != x.text || impl.CapsOf(x.disco).Text != x.caps || hex.EncodeToString(impl.Sha1Of(y.data).Bytes) != y.digest || impl.Base64Of([]byte("Ma")).Text != "TWE=" || impl.IdentityText(identity("a", "b", "c", "d/e")).Text != "a/b/c/d/e" {
					t.Error("an answer is another one at a later call")
				}
			}
		})
	}
	all.Wait()
}

func FuzzDigests(f *testing.F) {
	for _, x := range digestsToKnow {
		f.Add(x.data)
	}
	f.Fuzz(func(t *testing.T, data []byte) {
		checkSha1(t, data)
		checkBase64(t, data)
	})
}

// The text is cut at each byte 0 into fields: of as many Identities as told,
// then Features.
func FuzzDiscos(f *testing.F) {
	for _, x := range discosToKnow {
		var fields []string
		for _, y := range x.disco.Identities {
			fields = append(fields, y.Category, y.Kind, y.Lang, y.Name)
		}
		f.Add(len(x.disco.Identities), strings.Join(append(fields, x.disco.Features...), "\x00"))
	}
	f.Add(1, "a\x00b\x00\x00<\x00f\x00f")
	f.Add(2, "a\x00b\x00\x00x\x00a\x00b\x00\x00y")
	f.Fuzz(func(t *testing.T, count int, text string) {
		var d impl.Disco
		fields := strings.Split(text, "\x00")
		for ; count > 0 && len(fields) >= 4; count-- {
			d.Identities = append(d.Identities, identity(fields...))
			fields = fields[4:]
		}
		d.Features = fields
		checkDisco(t, d)
		d.Features = slices.Clone(fields)
		slices.Reverse(d.Features)
		slices.Reverse(d.Identities)
		checkSameName(t, d, capsStringOtherwise(impl.Disco{Identities: d.Identities, Features: fields}), capsOtherwise(impl.Disco{Identities: d.Identities, Features: fields}))
	})
}
