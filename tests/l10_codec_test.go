package tests

import (
	"bytes"
	"fmt"
	"math"
	"math/rand"
	"slices"
	"strings"
	"sync"
	"testing"

	"loop.example/g00795/impl"
)

var formats = []int64{1, 2, 3}

// noFormats are numbers beside those of the formats, and some that end as these
// do.
var noFormats = []int64{
	0, 4, -1, -2, -3, 5, 6, 7, 8, 10, 127, 128, 255, 256, 257, 258, 259, -255, -254, -253, 1<<16 + 1, 1<<16 + 2, 1<<16 + 3,
	1 << 32, 1<<32 + 1, 1<<32 + 2, 1<<32 + 3, -1<<32 + 1, -1<<32 + 2, -1<<32 + 3, math.MinInt64, math.MinInt64 + 1, math.MinInt64 + 2, math.MinInt64 + 3, math.MaxInt64 - 1, math.MaxInt64,
}

func isFormatOtherwise(format int64) bool {
	return slices.Contains(formats, format)
}

// encodeOtherwise rests on the second writers of the chapters ahead.
func encodeOtherwise(format int64, p impl.Presence) impl.BytesResult {
	code := firstOf(codeIf(impl.ErrRange, !isFormatOtherwise(format)), presenceFaultOtherwise(p))
	if code == impl.OK && format == 3 {
		code = projectionOtherwise(p).Code
	}
	if code != impl.OK {
		return impl.BytesResult{Code: code}
	}
	var data []byte
	switch format {
	case 1:
		data = []byte(printOtherwise(treeOtherwise(p)))
	case 2:
		data = packOtherwise(treeOtherwise(p))
	case 3:
		data = []byte(pidfMarks(projectionOtherwise(p).Presence))
	}
	if len(data) > 3000 {
		return impl.BytesResult{Code: impl.ErrMany}
	}
	return impl.BytesResult{Bytes: data}
}

// decodeOtherwise rests on the second readers of the chapters ahead.
func decodeOtherwise(format int64, data []byte) impl.PresenceResult {
	if !isFormatOtherwise(format) {
		return impl.PresenceResult{Code: impl.ErrRange}
	}
	var tree impl.TreeResult
	if format == 2 {
		tree = unpackOtherwise(data)
	} else {
		tree = parseOtherwise(string(data))
	}
	if tree.Code != impl.OK {
		return impl.PresenceResult{Code: tree.Code}
	}
	if format == 3 {
		return pidfOtherwise(tree.Items)
	}
	return presenceOtherwise(tree.Items)
}

// saidIn is what is left of p, which can be said in that format, in it.
func saidIn(format int64, p impl.Presence) impl.Presence {
	if format == 3 {
		return projectionOtherwise(p).Presence
	}
	return p
}

func checkBytes(t *testing.T, what string, got, want impl.BytesResult) {
	t.Helper()
	if got.Code != want.Code || !bytes.Equal(got.Bytes, want.Bytes) {
		t.Errorf("%s has the code %d and %d bytes: %.300q\nwant the code %d and %d bytes: %.300q", what, got.Code, len(got.Bytes), got.Bytes, want.Code, len(want.Bytes), want.Bytes)
	}
}

func checkDecoded(t *testing.T, format int64, data []byte, want impl.PresenceResult) {
	t.Helper()
	if got := impl.DecodePresence(format, data); got.Code != want.Code || !asOne(got.Presence, want.Presence) {
		t.Errorf("DecodePresence(%d, %.300q) = %+v, want %+v", format, data, got, want)
	}
}

// checkEncoded is the promise of any presence in a format, be it none: it is
// written as the other writer does, and read back.
func checkEncoded(t *testing.T, format int64, p impl.Presence) impl.BytesResult {
	t.Helper()
	want := encodeOtherwise(format, p)
	checkBytes(t, fmt.Sprintf("EncodePresence(%d, %+v)", format, p), impl.EncodePresence(format, p), want)
	if want.Code == impl.OK {
		checkDecoded(t, format, want.Bytes, impl.PresenceResult{Presence: saidIn(format, p)})
		checkBytes(t, fmt.Sprintf("CanonOf(%d) of what has been written", format), impl.CanonOf(format, want.Bytes), want)
	}
	return want
}

// checkOver is the promise of what goes from one format over another one and
// back: it is what it was, as far as both can say it.
func checkOver(t *testing.T, from, over int64, p impl.Presence) {
	t.Helper()
	first := encodeOtherwise(from, p)
	if first.Code != impl.OK {
		return
	}
	there := encodeOtherwise(over, saidIn(from, p))
	checkBytes(t, fmt.Sprintf("Transcode(%d, %d) of %+v", from, over, p), impl.Transcode(from, over, first.Bytes), there)
	if there.Code != impl.OK {
		return
	}
	back := encodeOtherwise(from, saidIn(over, saidIn(from, p)))
	checkBytes(t, fmt.Sprintf("Transcode(%d, %d) of %+v", over, from, p), impl.Transcode(over, from, there.Bytes), back)
	if from != 3 && over != 3 && !bytes.Equal(back.Bytes, first.Bytes) {
		t.Errorf("%.300q is %.300q behind the format %d", first.Bytes, back.Bytes, over)
	}
}

func checkInFormats(t *testing.T, p impl.Presence) {
	t.Helper()
	for _, format := range formats {
		checkEncoded(t, format, p)
		for _, over := range formats {
			checkOver(t, format, over, p)
		}
	}
}

// checkData is the promise of any bytes in a format: they are read as the other
// reader does, and what is read is written again in one way, which reads the
// same.
func checkData(t *testing.T, format int64, data []byte) impl.PresenceResult {
	t.Helper()
	want := decodeOtherwise(format, data)
	checkDecoded(t, format, data, want)
	for _, to := range formats {
		written := impl.BytesResult{Code: want.Code}
		if want.Code == impl.OK {
			written = encodeOtherwise(to, want.Presence)
		}
		checkBytes(t, fmt.Sprintf("Transcode(%d, %d, %.300q)", format, to, data), impl.Transcode(format, to, data), written)
		if to != format {
			continue
		}
		checkBytes(t, fmt.Sprintf("CanonOf(%d, %.300q)", format, data), impl.CanonOf(format, data), written)
		if written.Code == impl.OK {
			checkDecoded(t, format, written.Bytes, want)
			checkBytes(t, fmt.Sprintf("CanonOf(%d) at the second time", format), impl.CanonOf(format, written.Bytes), written)
		}
	}
	return want
}

// checkNoData is for bytes with a code that is known.
func checkNoData(t *testing.T, name string, format int64, data []byte, code int64) {
	t.Helper()
	if got := impl.DecodePresence(format, data); got.Code != code || !asOne(got.Presence, impl.Presence{}) {
		t.Errorf("%s: DecodePresence(%d, %.300q) = %+v, want the code %d alone", name, format, data, got, code)
	}
	checkBytes(t, name+": CanonOf", impl.CanonOf(format, data), impl.BytesResult{Code: code})
	for _, to := range formats {
		checkBytes(t, fmt.Sprintf("%s: Transcode to %d", name, to), impl.Transcode(format, to, data), impl.BytesResult{Code: code})
	}
	checkData(t, format, data)
}

const clientString = "\x0djabber:client"
const presenceString = "\x08presence"

// presencesInFormats are presences, and what they are in each format. Of what
// cannot be said there is no pidf, but a code.
var presencesInFormats = []struct {
	name     string
	presence impl.Presence
	marks    string
	frame    string
	pidf     string
	code     int64
}{
	{"nothing", impl.Presence{}, `<presence xmlns="jabber:client"/>`, "\x02" + clientString + presenceString + "\x01\x00\x01\x00\x01\x00", "", impl.ErrState},
	{"a From", impl.Presence{From: "a@b"}, `<presence xmlns="jabber:client" from="a@b"/>`,
		"\x04" + clientString + presenceString + "\x04from\x03a@b\x01\x00\x01\x00\x01\x01\x02\x03", pidfWith(openMark), impl.OK},
	{"unavailable", impl.Presence{Kind: 1, From: "a@b", Status: "s"}, `<presence xmlns="jabber:client" from="a@b" type="unavailable"><status>s</status></presence>`,
		"\x08" + clientString + presenceString + "\x04from\x03a@b\x04type\x0bunavailable\x06status\x01s" + "\x03\x00\x01\x00\x01\x02\x02\x03\x04\x05\x01\x01\x00\x06\x00\x02\x00\x07", pidfWith(closedMark + noteMark), impl.OK},
	{"chat", impl.Presence{From: "a@b", Show: 2, Priority: 1}, `<presence xmlns="jabber:client" from="a@b"><show>chat</show><priority>1</priority></presence>`,
		"\x08" + clientString + presenceString + "\x04from\x03a@b\x04show\x04chat\x08priority\x011" + "\x05\x00\x01\x00\x01\x01\x02\x03\x01\x01\x00\x04\x00\x02\x00\x05\x01\x01\x00\x06\x00\x02\x00\x07", withShare("0.008"), impl.OK},
	{"a probe", impl.Presence{Kind: 6, From: "a", To: "a"}, `<presence xmlns="jabber:client" from="a" to="a" type="probe"/>`,
		"\x07" + clientString + presenceString + "\x04from\x01a\x02to\x04type\x05probe" + "\x01\x00\x01\x00\x01\x03\x02\x03\x04\x03\x05\x06", "", impl.ErrState},
	{"no From", impl.Presence{To: "a", Show: 3, Status: "show"}, `<presence xmlns="jabber:client" to="a"><show>dnd</show><status>show</status></presence>`,
		"\x07" + clientString + presenceString + "\x02to\x01a\x04show\x03dnd\x06status" + "\x05\x00\x01\x00\x01\x01\x02\x03\x01\x01\x00\x04\x00\x02\x00\x05\x01\x01\x00\x06\x00\x02\x00\x04", "", impl.ErrState},
	{"all of it", impl.Presence{From: "a@b", To: "c@d", Show: 4, Status: "s", Priority: -5, More: []impl.Item{{Space: "u", Name: "x", Attrs: attrsOf("a", "")}, {Depth: 1, Text: "s"}, {Name: "x"}}},
		`<presence xmlns="jabber:client" from="a@b" to="c@d"><show>xa</show><status>s</status><priority>-5</priority><x xmlns="u" a="">s</x><x xmlns=""/></presence>`,
		"\x10" + clientString + presenceString + "\x04from\x03a@b\x02to\x03c@d\x04show\x02xa\x06status\x01s\x08priority\x02-5\x01u\x01x\x01a\x00" +
			"\x0a\x00\x01\x00\x01\x02\x02\x03\x04\x05\x01\x01\x00\x06\x00\x02\x00\x07\x01\x01\x00\x08\x00\x02\x00\x09\x01\x01\x00\x0a\x00\x02\x00\x0b\x01\x01\x0c\x0d\x01\x0e\x0f\x02\x00\x09\x01\x01\x0f\x0d\x00",
		pidfWith(openMark + awayMark + noteMark), impl.OK},
	{"signs that mean something", impl.Presence{From: "<\"&", Status: ">\t\""}, "<presence xmlns=\"jabber:client\" from=\"&lt;&quot;&amp;\"><status>&gt;\t\"</status></presence>",
		"\x06" + clientString + presenceString + "\x04from\x03<\"&\x06status\x03>\t\"" + "\x03\x00\x01\x00\x01\x01\x02\x03\x01\x01\x00\x04\x00\x02\x00\x05",
		`<presence xmlns="urn:ietf:params:xml:ns:pidf" entity="pres:&lt;&quot;&amp;"><tuple id="t">` + openMark + "<note>&gt;\t\"</note></tuple></presence>", impl.OK},
	{"words of the formats as texts", impl.Presence{From: "jabber:client", To: "presence", Status: "<presence/>"}, `<presence xmlns="jabber:client" from="jabber:client" to="presence"><status>&lt;presence/&gt;</status></presence>`,
		"\x06" + clientString + presenceString + "\x04from\x02to\x06status\x0b<presence/>" + "\x03\x00\x01\x00\x01\x02\x02\x00\x03\x01\x01\x01\x00\x04\x00\x02\x00\x05",
		`<presence xmlns="urn:ietf:params:xml:ns:pidf" entity="pres:jabber:client"><tuple id="t">` + openMark + "<note>&lt;presence/&gt;</note></tuple></presence>", impl.OK},
	{"a From of 55 bytes", impl.Presence{From: strings.Repeat("a", 55)}, `<presence xmlns="jabber:client" from="` + strings.Repeat("a", 55) + `"/>`,
		"\x04" + clientString + presenceString + "\x04from\x37" + strings.Repeat("a", 55) + "\x01\x00\x01\x00\x01\x01\x02\x03",
		`<presence xmlns="urn:ietf:params:xml:ns:pidf" entity="pres:` + strings.Repeat("a", 55) + `"><tuple id="t">` + openMark + "</tuple></presence>", impl.OK},
	{"a From of 56 bytes", impl.Presence{From: strings.Repeat("a", 56)}, `<presence xmlns="jabber:client" from="` + strings.Repeat("a", 56) + `"/>`,
		"\x04" + clientString + presenceString + "\x04from\x38" + strings.Repeat("a", 56) + "\x01\x00\x01\x00\x01\x01\x02\x03", "", impl.ErrMany},
	{"a From and a Status of 60 bytes", impl.Presence{From: strings.Repeat("a", 60), Status: strings.Repeat("&", 60)}, `<presence xmlns="jabber:client" from="` + strings.Repeat("a", 60) + `"><status>` + strings.Repeat("&amp;", 60) + `</status></presence>`,
		"\x06" + clientString + presenceString + "\x04from\x3c" + strings.Repeat("a", 60) + "\x06status\x3c" + strings.Repeat("&", 60) + "\x03\x00\x01\x00\x01\x01\x02\x03\x01\x01\x00\x04\x00\x02\x00\x05", "", impl.ErrMany},
	{"20 trees", impl.Presence{From: "a@b", More: rowOfTrees(20)}, `<presence xmlns="jabber:client" from="a@b">` + strings.Repeat(`<x xmlns="u"/>`, 20) + `</presence>`,
		"\x06" + clientString + presenceString + "\x04from\x03a@b\x01u\x01x\x15\x00\x01\x00\x01\x01\x02\x03" + strings.Repeat("\x01\x01\x04\x05\x00", 20), pidfWith(openMark), impl.OK},
}

func TestConstantsOfChapter10(t *testing.T) {
	if impl.FormatXml != 1 || impl.FormatBin != 2 || impl.FormatPidf != 3 {
		t.Error("a format has another number")
	}
}

func TestIsFormat(t *testing.T) {
	for format := int64(-300); format <= 300; format++ {
		if got := impl.IsFormat(format); got != (format >= 1 && format <= 3) {
			t.Errorf("IsFormat(%d) is %v", format, got)
		}
	}
	for _, format := range noFormats {
		if impl.IsFormat(format) {
			t.Errorf("IsFormat(%d) is true", format)
		}
	}
}

// checkNoFormat asks each function of a format that is none: the code of that is
// the first one, whatever else is wrong.
func checkNoFormat(t *testing.T, format int64, p impl.Presence, data []byte) {
	t.Helper()
	none := impl.BytesResult{Code: impl.ErrRange}
	checkBytes(t, fmt.Sprintf("EncodePresence(%d)", format), impl.EncodePresence(format, p), none)
	checkBytes(t, fmt.Sprintf("CanonOf(%d)", format), impl.CanonOf(format, data), none)
	checkDecoded(t, format, data, impl.PresenceResult{Code: impl.ErrRange})
	for _, other := range slices.Concat(formats, []int64{0, 4, -1, format}) {
		checkBytes(t, fmt.Sprintf("Transcode(%d, %d)", format, other), impl.Transcode(format, other, data), none)
		checkBytes(t, fmt.Sprintf("Transcode(%d, %d)", other, format), impl.Transcode(other, format, data), none)
	}
}

func TestFormatsThatAreNone(t *testing.T) {
	presences := []impl.Presence{{}, {From: "a@b", Show: 2, Priority: 1}, {Kind: 9}, {Kind: 2}, {From: strings.Repeat("a", 61)}, {Status: "\x00"}, {Kind: 6, Status: "s"}, {More: rowOfTrees(21)}}
	datas := []string{"", "<", "<a/>", "\x00", strings.Repeat(" ", 3001), strings.Repeat("\xff", 3001), presencesInFormats[1].marks, presencesInFormats[1].frame, presencesInFormats[1].pidf}
	for _, format := range noFormats {
		for _, p := range presences {
			for _, data := range datas {
				checkNoFormat(t, format, p, []byte(data))
			}
		}
		checkNoFormat(t, format, presences[0], nil)
	}
	for format := int64(-300); format <= 300; format++ {
		if !isFormatOtherwise(format) {
			checkNoFormat(t, format, presences[1], []byte(datas[6]))
		}
	}
}

func TestPresencesInFormats(t *testing.T) {
	for _, x := range presencesInFormats {
		for format, want := range map[int64]impl.BytesResult{1: {Bytes: []byte(x.marks)}, 2: {Bytes: []byte(x.frame)}, 3: {Code: x.code, Bytes: []byte(x.pidf)}} {
			name := fmt.Sprintf("%s, in the format %d", x.name, format)
			checkBytes(t, name+": EncodePresence", impl.EncodePresence(format, x.presence), want)
			checkBytes(t, name+": the other one", encodeOtherwise(format, x.presence), want)
			for _, from := range []int64{1, 2} {
				data := map[int64]string{1: x.marks, 2: x.frame}[from]
				checkBytes(t, fmt.Sprintf("%s: Transcode from %d", name, from), impl.Transcode(from, format, []byte(data)), want)
			}
			if want.Code == impl.OK {
				checkDecoded(t, format, want.Bytes, impl.PresenceResult{Presence: saidIn(format, x.presence)})
				checkBytes(t, name+": CanonOf", impl.CanonOf(format, want.Bytes), want)
				checkData(t, format, want.Bytes)
			}
		}
		checkInFormats(t, x.presence)
	}
}

// The bytes of one format are none of another one.
func TestFormatsReadAsOthers(t *testing.T) {
	for _, x := range presencesInFormats {
		checkNoData(t, x.name+": marks as a frame", 2, []byte(x.marks), impl.ErrText)
		checkNoData(t, x.name+": marks as a pidf", 3, []byte(x.marks), impl.ErrForm)
		checkNoData(t, x.name+": a frame as marks", 1, []byte(x.frame), impl.ErrText)
		checkNoData(t, x.name+": a frame as a pidf", 3, []byte(x.frame), impl.ErrText)
		if x.code == impl.OK {
			checkNoData(t, x.name+": a pidf as marks", 1, []byte(x.pidf), impl.ErrForm)
			checkNoData(t, x.name+": a pidf as a frame", 2, []byte(x.pidf), impl.ErrText)
			checkNoData(t, x.name+": the tree of a pidf as a frame", 2, packOtherwise(markedItems(t, x.pidf)), impl.ErrForm)
		}
	}
}

func TestPresencesOfEveryTableInFormats(t *testing.T) {
	for _, x := range presencesToKnow {
		checkInFormats(t, x.presence)
		if got := impl.EncodePresence(impl.FormatXml, x.presence); got.Code != impl.OK || string(got.Bytes) != x.marks {
			t.Errorf("%s: %+v, want %s", x.name, got, x.marks)
		}
	}
	for _, x := range projectionsToKnow {
		checkInFormats(t, x.presence)
		if got := impl.EncodePresence(impl.FormatPidf, x.presence); got.Code != impl.OK || string(got.Bytes) != x.marks {
			t.Errorf("%s: %+v, want %s", x.name, got, x.marks)
		}
	}
	for _, x := range moresToKnow {
		for kind := range int64(7) {
			checkInFormats(t, impl.Presence{Kind: kind, From: "a", To: "b", More: x.value})
		}
		checkInFormats(t, impl.Presence{From: "a", Show: 4, Status: "s", Priority: 127, More: x.value})
	}
	for _, x := range append([]choice[string]{{"no byte", "", impl.OK}}, textChoices...) {
		checkInFormats(t, impl.Presence{From: x.value, Priority: 64})
		checkInFormats(t, impl.Presence{From: "a", To: x.value})
		checkInFormats(t, impl.Presence{From: "a", Status: x.value})
		checkInFormats(t, impl.Presence{Kind: 1, From: x.value, Status: x.value})
	}
}

// checkNoEncoding is for presences whose code is known, in a format.
func checkNoEncoding(t *testing.T, name string, format int64, p impl.Presence, code int64) {
	t.Helper()
	checkBytes(t, fmt.Sprintf("%s: EncodePresence(%d)", name, format), impl.EncodePresence(format, p), impl.BytesResult{Code: code})
	checkEncoded(t, format, p)
}

func TestFaultsOfPresencesInFormats(t *testing.T) {
	for _, x := range noProjections {
		checkNoEncoding(t, x.name, impl.FormatPidf, x.value, x.code)
		checkInFormats(t, x.value)
		if fault := impl.PresenceFault(x.value); fault != impl.OK {
			checkNoEncoding(t, x.name, impl.FormatXml, x.value, fault)
			checkNoEncoding(t, x.name, impl.FormatBin, x.value, fault)
		}
	}
	for _, x := range noMores {
		for _, format := range formats {
			checkNoEncoding(t, x.name, format, impl.Presence{From: "a", More: x.value}, x.code)
			checkNoEncoding(t, x.name, format, impl.Presence{More: x.value}, x.code)
			checkNoEncoding(t, x.name, format, impl.Presence{Kind: 6, From: strings.Repeat("a", 56), More: x.value}, x.code)
		}
	}
	for _, format := range formats {
		checkNoEncoding(t, "the Kind 9", format, impl.Presence{Kind: 9}, impl.ErrRange)
		checkNoEncoding(t, "the Show -1", format, impl.Presence{Kind: 2, Show: -1}, impl.ErrRange)
		checkNoEncoding(t, "the Priority 128", format, impl.Presence{Priority: 128, From: "\x00"}, impl.ErrRange)
		checkNoEncoding(t, "a From of 61 bytes", format, impl.Presence{From: strings.Repeat("a", 61)}, impl.ErrMany)
		checkNoEncoding(t, "a To with a byte 0", format, impl.Presence{Kind: 2, To: "\x00"}, impl.ErrText)
		checkNoEncoding(t, "the Status of a probe", format, impl.Presence{Kind: 6, Status: "s"}, impl.ErrForm)
	}
}

// The codes of all fields in order, without asking the other writer: that of the
// format, those of the presence, those of the format's own.
func TestCodesOfEncodings(t *testing.T) {
	for _, format := range slices.Concat(formats, []int64{0, 4, -1, math.MinInt64, math.MaxInt64}) {
		none, isPidf := codeIf(impl.ErrRange, !isFormatOtherwise(format)), format == 3
		for _, kind := range kindChoices {
			for _, show := range showChoices {
				for _, from := range fromChoices {
					for _, status := range fewTexts {
						for _, more := range fewMores {
							p := impl.Presence{Kind: kind.value, From: from.value, Show: show.value, Status: status.value, More: more.value}
							state := codeIf(impl.ErrState, isPidf && (kind.value > 1 || from.value == ""))
							many := codeIf(impl.ErrMany, isPidf && len(from.value) > 55)
							want := firstOf(none, kind.code, show.code, impl.TextFault(from.value), status.code, formIf(saysTooMuch(p)), more.code, state, many)
							if got := impl.EncodePresence(format, p); got.Code != want || (want == impl.OK) != (len(got.Bytes) > 0) {
								t.Errorf("the format %d; %s; %s; %s; Status: %s; More: %s: %+v, want the code %d", format, kind.name, show.name, from.name, status.name, more.name, got, want)
							}
						}
					}
				}
			}
		}
	}
}

func TestPresencesAtRandomInFormats(t *testing.T) {
	from := rand.New(rand.NewSource(10))
	said := map[int64]int{}
	for range 3000 {
		p := somePresenceForOthers(from)
		checkInFormats(t, p)
		for _, format := range formats {
			if got := impl.EncodePresence(format, p); got.Code == impl.OK {
				said[format]++
			}
		}
	}
	if said[1] < 2000 || said[2] < 2000 || said[3] < 1000 {
		t.Errorf("of 3000 there can be said: %d", said)
	}
}

func TestEachKindShowAndPriorityInFormats(t *testing.T) {
	for priority := int64(-129); priority <= 128; priority++ {
		for show := int64(-1); show <= 5; show++ {
			for kind := int64(-1); kind <= 7; kind++ {
				// The other Kinds have nothing to say of a Priority.
				if kind <= 1 || priority%43 == 0 {
					checkInFormats(t, impl.Presence{Kind: kind, From: "a@b", Show: show, Priority: priority})
				}
			}
		}
	}
}

// What goes on from format to format comes to an end: each one says what the
// others say, as far as all can.
func TestPresencesGoThroughAllFormats(t *testing.T) {
	from := rand.New(rand.NewSource(11))
	for range 500 {
		p := somePresenceForOthers(from)
		projected := projectionOtherwise(p)
		at, data := int64(1), impl.EncodePresence(1, p)
		if projected.Code != impl.OK || data.Code != impl.OK {
			continue
		}
		wasPidf := false
		for range 12 {
			to := formats[from.Intn(3)]
			wasPidf = wasPidf || to == 3
			want := encodeOtherwise(to, p)
			if wasPidf {
				want = encodeOtherwise(to, projected.Presence)
			}
			next := impl.Transcode(at, to, data.Bytes)
			checkBytes(t, fmt.Sprintf("Transcode(%d, %d) of %+v on its way", at, to, p), next, want)
			if next.Code == impl.OK {
				at, data = to, next
			}
		}
	}
}

// Presences that differ have bytes that differ.
func TestBytesOfPresencesThatDiffer(t *testing.T) {
	for _, format := range []int64{1, 2} {
		met := map[string]impl.Presence{}
		for kind := range int64(7) {
			for show := range int64(5) {
				for _, priority := range []int64{-128, -1, 0, 1, 127} {
					for way := range 3 * 3 * 3 * 3 {
						texts := []string{"", "a", "1"}
						mores := [][]impl.Item{nil, {{Name: "a"}}, {{Name: "a"}, {Depth: 1, Text: "a"}}}
						p := impl.Presence{Kind: kind, Show: show, Priority: priority, From: texts[way%3], To: texts[way/3%3], Status: texts[way/9%3], More: mores[way/27]}
						if saysTooMuch(p) {
							continue
						}
						data := string(impl.EncodePresence(format, p).Bytes)
						if other, isMet := met[data]; isMet || data == "" {
							t.Fatalf("%+v and %+v are both %q in the format %d", p, other, data, format)
						}
						met[data] = p
					}
				}
			}
		}
	}
}

// What is written in other ways is read, and made into the one way.
func TestCanonOfWhatIsWrittenOtherwise(t *testing.T) {
	for _, x := range readOtherwiseWritten {
		want := impl.BytesResult{Bytes: []byte(printOtherwise(treeOtherwise(x.presence)))}
		checkBytes(t, x.name+": CanonOf", impl.CanonOf(impl.FormatXml, []byte(x.marks)), want)
		if got := impl.DecodePresence(impl.FormatXml, []byte(x.marks)); got.Code != impl.OK || !asOne(got.Presence, x.presence) {
			t.Errorf("%s: %+v, want %+v", x.name, got, x.presence)
		}
		checkData(t, 1, []byte(x.marks))
		checkData(t, 2, packOtherwise(markedItems(t, x.marks)))
		frame := impl.BytesResult{Bytes: packOtherwise(treeOtherwise(x.presence))}
		checkBytes(t, x.name+": CanonOf of its frame", impl.CanonOf(impl.FormatBin, packOtherwise(markedItems(t, x.marks))), frame)
	}
	const want = `<presence xmlns="jabber:client" from="a@b"><show>chat</show><priority>1</priority></presence>`
	for _, loose := range []string{
		want,
		" \t\n" + want + "\n",
		"<j:presence xmlns:j='jabber:client' from='a@b'><j:priority>1</j:priority><j:show>chat</j:show></j:presence>",
		"<presence from = '&#97;&#x40;b' xmlns='jabber:client' ><show >ch&#97;t</show\n><priority>&#49;</priority></presence >",
		"<presence to='' from=\"a@b\" xmlns='jabber:client'><status/><show>chat</show><priority>1</priority></presence>",
		"<presence from='a@b' xmlns:p='u' xmlns='jabber:client'><show xmlns='jabber:client'>chat</show><p:priority xmlns:p='jabber:client'>1</p:priority></presence>",
	} {
		checkBytes(t, "CanonOf "+loose, impl.CanonOf(impl.FormatXml, []byte(loose)), impl.BytesResult{Bytes: []byte(want)})
		checkData(t, 1, []byte(loose))
	}
}

func TestCanonOfPidfsWrittenOtherwise(t *testing.T) {
	want := pidfWith(openMark + awayMark + contactMark + noteMark)
	for _, loose := range []string{
		want,
		"\n" + want + " ",
		"<p:presence xmlns:p='urn:ietf:params:xml:ns:pidf' entity='pres:a@b'><p:tuple id='t'><p:status><p:basic>open</p:basic></p:status><r:activities xmlns:r='urn:ietf:params:xml:ns:pidf:rpid'><r:away></r:away></r:activities><p:contact priority='0.504'>xmpp:a@b</p:contact><p:note>s</p:note></p:tuple></p:presence>",
		strings.Replace(want, "open", "&#111;pe&#x6e;", 1),
		strings.Replace(want, "<away/>", "<away ></away >", 1),
		strings.Replace(want, ` entity="pres:a@b"`, "\n entity = 'pres:a&#64;b' xmlns:u='v'", 1),
	} {
		checkBytes(t, "CanonOf "+loose, impl.CanonOf(impl.FormatPidf, []byte(loose)), impl.BytesResult{Bytes: []byte(want)})
		if got := checkData(t, 3, []byte(loose)); !asOne(got.Presence, impl.Presence{From: "a@b", Show: 1, Status: "s", Priority: 64}) {
			t.Errorf("%s is read as %+v", loose, got)
		}
	}
}

// somehowWritten is a tree in any of the ways in which it may be read.
func somehowWritten(from *rand.Rand, items []impl.Item) []byte {
	w := writer{from: from}
	w.out.WriteString(w.blanks(0))
	w.element(items, 0, map[string]string{"": ""})
	w.out.WriteString(w.blanks(0))
	return []byte(w.out.String())
}

func TestPresencesAreReadHoweverTheyAreWritten(t *testing.T) {
	from := rand.New(rand.NewSource(12))
	read := map[int64]int{}
	for range 1500 {
		p := somePresenceForOthers(from)
		trees := map[int64][]impl.Item{1: treeOtherwise(p)}
		if projected := projectionOtherwise(p); projected.Code == impl.OK {
			trees[3] = impl.ParseXml(pidfMarks(projected.Presence)).Items
		}
		for format, items := range trees {
			data := somehowWritten(from, items)
			if len(data) > 3000 {
				checkNoData(t, "a long text", format, data, impl.ErrMany)
				continue
			}
			checkBytes(t, fmt.Sprintf("CanonOf(%d, %.300q)", format, data), impl.CanonOf(format, data), encodeOtherwise(format, p))
			checkData(t, format, data)
			read[format]++
		}
	}
	if read[1] < 1000 || read[3] < 500 {
		t.Errorf("only %d texts have been read", read)
	}
}

func TestBytesThatTellNoPresence(t *testing.T) {
	for _, x := range noPresences {
		checkNoData(t, x.name, 1, []byte(x.value), x.code)
		checkNoData(t, x.name, 2, packOtherwise(markedItems(t, x.value)), x.code)
		checkNoData(t, x.name, 3, []byte(x.value), impl.ErrForm)
	}
	for name, text := range noMarks {
		if len(text) <= 3000 {
			checkNoData(t, name, 1, []byte(text), impl.ErrText)
			checkNoData(t, name, 3, []byte(text), impl.ErrText)
		}
	}
	for name, frame := range noFrames {
		if len(frame) <= 3000 {
			checkNoData(t, name, 2, frame, impl.ErrText)
		}
	}
	for _, x := range framesToKnow {
		checkNoData(t, x.name, 2, x.frame, impl.ErrForm)
	}
	for text := range marksOfTrees {
		checkNoData(t, "a tree", 1, []byte(text), impl.ErrForm)
		checkNoData(t, "a tree", 3, []byte(text), impl.ErrForm)
	}
	for _, x := range otherMarks {
		checkNoData(t, x.name, 3, []byte(x.marks), impl.ErrForm)
	}
	for _, x := range otherTuples {
		checkNoData(t, x.name, 3, []byte(pidfWith(x.inside)), impl.ErrForm)
	}
	for _, inside := range otherActivities {
		checkNoData(t, "activities", 3, []byte(withActivities(inside)), impl.ErrForm)
	}
}

// Marked texts of trees with a fault have its code; frames of such are none.
func TestBytesOfTreesWithAFault(t *testing.T) {
	for _, x := range []choice[string]{
		{"41 items", inPresence("", strings.Repeat("<x xmlns='u'/>", 40)), impl.ErrMany},
		{"8 in one another", inPresence("", nested(7, "")), impl.ErrRange},
		{"six Attrs", inPresence(" a='' b='' c='' d='' e='' f=''", ""), impl.ErrMany},
		{"a status of 61 bytes", inPresence("", "<status>"+strings.Repeat("s", 61)+"</status>"), impl.ErrMany},
		{"a from of 61 bytes", inPresence(" from='"+strings.Repeat("s", 61)+"'", ""), impl.ErrMany},
		{"a Space of 61 bytes", inPresence("", "<x xmlns='"+strings.Repeat("s", 61)+"'/>"), impl.ErrMany},
		{"a sign that is none", inPresence("", "<status>\x00</status>"), impl.ErrText},
		{"a sign that is none, written otherwise", inPresence("", "<status>&#0;</status>"), impl.ErrText},
		{"half a point", inPresence("", "<status>\xe2\x82</status>"), impl.ErrText},
		{"no end", "<presence xmlns='jabber:client'>", impl.ErrText},
		{"two presences", "<presence xmlns='jabber:client'/><presence xmlns='jabber:client'/>", impl.ErrText},
	} {
		checkNoData(t, x.name, 1, []byte(x.value), x.code)
		checkNoData(t, x.name, 3, []byte(x.value), x.code)
		checkNoData(t, x.name, 2, []byte(x.value), impl.ErrText)
	}
	first := impl.Item{Space: impl.ClientSpace, Name: "presence"}
	for name, items := range map[string][]impl.Item{
		"two presences":             {first, first},
		"two texts side by side":    {first, {Depth: 1, Space: impl.ClientSpace, Name: "status"}, {Depth: 2, Text: "s"}, {Depth: 2, Text: "t"}},
		"Attrs that fall":           {{Space: impl.ClientSpace, Name: "presence", Attrs: attrsOf("to", "b", "from", "a")}},
		"a from twice":              {{Space: impl.ClientSpace, Name: "presence", Attrs: attrsOf("from", "a", "from", "a")}},
		"one of the Depth 1 alone":  {{Depth: 1, Space: impl.ClientSpace, Name: "presence"}},
		"a status of the Depth 2":   {first, {Depth: 2, Space: impl.ClientSpace, Name: "status"}},
		"an Attr that is a setting": {{Space: impl.ClientSpace, Name: "presence", Attrs: attrsOf("xmlns", "u")}},
	} {
		checkNoData(t, name, 2, packOtherwise(items), impl.ErrText)
	}
}

func TestNoBytesAndTooMany(t *testing.T) {
	for _, format := range formats {
		checkNoData(t, "nil", format, nil, impl.ErrText)
		checkNoData(t, "no bytes", format, []byte{}, impl.ErrText)
		for b := range 256 {
			checkNoData(t, "one byte", format, []byte{byte(b)}, impl.ErrText)
		}
		for _, b := range []byte{0, 1, 32, '<', 127, 128, 255} {
			checkNoData(t, "3000 bytes", format, bytes.Repeat([]byte{b}, 3000), impl.ErrText)
			checkNoData(t, "3001 bytes", format, bytes.Repeat([]byte{b}, 3001), impl.ErrMany)
			checkNoData(t, "very many bytes", format, bytes.Repeat([]byte{b}, 1<<20), impl.ErrMany)
		}
	}
}

// A text may have blanks about it, as long as it is not too long; a frame may
// have nothing about it.
func TestBlanksAboutEachFormat(t *testing.T) {
	for _, x := range presencesInFormats {
		for format, data := range map[int64]string{1: x.marks, 2: x.frame, 3: x.pidf} {
			if data == "" {
				continue
			}
			for size, code := range map[int]int64{2999: impl.OK, 3000: impl.OK, 3001: impl.ErrMany} {
				blanks := strings.Repeat(" ", size-len(data))
				if format == 2 && code == impl.OK {
					code = impl.ErrText
				}
				for _, padded := range []string{blanks + data, data + blanks, blanks[:len(blanks)/2] + data + blanks[len(blanks)/2:]} {
					if code != impl.OK {
						checkNoData(t, x.name+", with blanks", format, []byte(padded), code)
						continue
					}
					checkBytes(t, x.name+", with blanks", impl.CanonOf(format, []byte(padded)), impl.BytesResult{Bytes: []byte(data)})
					checkData(t, format, []byte(padded))
				}
			}
		}
	}
}

// presenceOfSize is one with that Status, and More filled up until it has that
// many bytes in the format, which is FormatXml or FormatBin.
func presenceOfSize(t *testing.T, format int64, status string, size int) impl.Presence {
	t.Helper()
	p := impl.Presence{From: "a@b", Status: status}
	for at := range 10 {
		x := impl.Item{Space: "u", Name: "x"}
		for k := range 5 {
			x.Attrs = append(x.Attrs, impl.Attr{Name: fmt.Sprint("k", k), Value: fmt.Sprint(5*at + k)})
		}
		p.More = append(p.More, x)
	}
	sizeOf := func() int {
		if format == 2 {
			return len(packOtherwise(treeOtherwise(p)))
		}
		return len(printOtherwise(treeOtherwise(p)))
	}
	left := size - sizeOf()
	for i := range p.More {
		for k := range p.More[i].Attrs {
			value := &p.More[i].Attrs[k].Value
			more := max(0, min(left, 60-len(*value)))
			*value += strings.Repeat("x", more)
			left -= more
		}
	}
	if got := sizeOf(); got != size || impl.PresenceFault(p) != impl.OK {
		t.Fatalf("the presence of %d bytes has %d, and the fault %d", size, got, impl.PresenceFault(p))
	}
	return p
}

func TestPresencesOfEachSize(t *testing.T) {
	for _, format := range []int64{1, 2} {
		for _, status := range []string{"", "s", strings.Repeat("&", 60), strings.Repeat("\xe2\x82\xac", 20)} {
			for _, size := range []int{1500, 2000, 2998, 2999, 3000, 3001, 3002, 3100, 3200} {
				p := presenceOfSize(t, format, status, size)
				if size > 3000 {
					checkNoEncoding(t, fmt.Sprint(size, " bytes"), format, p, impl.ErrMany)
				} else if got := impl.EncodePresence(format, p); got.Code != impl.OK || len(got.Bytes) != size {
					t.Errorf("EncodePresence(%d) has the code %d and %d bytes, want %d", format, got.Code, len(got.Bytes), size)
				}
				checkInFormats(t, p)
				// The other format says nothing of More, so it is not too long.
				checkBytes(t, "its pidf", impl.EncodePresence(3, p), impl.BytesResult{Bytes: []byte(pidfMarks(impl.Presence{From: "a@b", Status: status}))})
				data := []byte(printOtherwise(treeOtherwise(p)))
				if format == 2 {
					data = packOtherwise(treeOtherwise(p))
				}
				if size > 3000 {
					checkNoData(t, fmt.Sprint(size, " bytes"), format, data, impl.ErrMany)
				} else {
					checkData(t, format, data)
				}
			}
		}
	}
}

// A Status of signs that are each written in several bytes: what is written is
// just as long as may be, or has one byte more. As a frame it is shorter.
func TestAStatusThatIsTooLongWhenItIsWritten(t *testing.T) {
	p := presenceOfSize(t, 1, strings.Repeat("&", 59)+">", 3000)
	marks := impl.EncodePresence(impl.FormatXml, p)
	if marks.Code != impl.OK || len(marks.Bytes) != 3000 {
		t.Fatalf("the code is %d, with %d bytes", marks.Code, len(marks.Bytes))
	}
	checkInFormats(t, p)
	checkData(t, 1, marks.Bytes)
	p.Status = strings.Repeat("&", 60)
	checkNoEncoding(t, "one byte more", impl.FormatXml, p, impl.ErrMany)
	checkInFormats(t, p)
	frame := impl.EncodePresence(impl.FormatBin, p)
	if frame.Code != impl.OK || len(frame.Bytes) > 3000 {
		t.Fatalf("the frame has the code %d and %d bytes", frame.Code, len(frame.Bytes))
	}
	checkDecoded(t, impl.FormatBin, frame.Bytes, impl.PresenceResult{Presence: p})
	checkBytes(t, "from the frame to marks", impl.Transcode(impl.FormatBin, impl.FormatXml, frame.Bytes), impl.BytesResult{Code: impl.ErrMany})
	checkBytes(t, "from the frame to a pidf", impl.Transcode(impl.FormatBin, impl.FormatPidf, frame.Bytes), impl.BytesResult{Bytes: []byte(pidfMarks(impl.Presence{From: "a@b", Status: p.Status}))})
	checkBytes(t, "the frame's own", impl.CanonOf(impl.FormatBin, frame.Bytes), frame)
	for count := range 61 {
		p.Status = strings.Repeat("&", count) + strings.Repeat("s", 60-count)
		want := int64(impl.OK)
		if count == 60 {
			want = impl.ErrMany
		}
		if got := impl.EncodePresence(impl.FormatXml, p); got.Code != want {
			t.Errorf("%d signs that are written otherwise: the code %d, want %d", count, got.Code, want)
		}
	}
}

// A text of 3000 bytes is read, though its one way is longer.
func TestTextsWhoseOneWayIsLonger(t *testing.T) {
	for _, count := range []int{0, 1, 2, 60} {
		p := presenceOfSize(t, 1, strings.Repeat(">", count)+"s"[count/60:], 3000+3*count)
		marks := strings.ReplaceAll(printOtherwise(treeOtherwise(p)), "&gt;", ">")
		if len(marks) != 3000 {
			t.Fatalf("the text has %d bytes", len(marks))
		}
		checkDecoded(t, impl.FormatXml, []byte(marks), impl.PresenceResult{Presence: p})
		checkData(t, 1, []byte(marks))
		want := impl.BytesResult{Code: impl.ErrMany}
		if count == 0 {
			want = impl.BytesResult{Bytes: []byte(marks)}
		}
		checkBytes(t, "the one way", impl.CanonOf(impl.FormatXml, []byte(marks)), want)
		checkBytes(t, "from marks to marks", impl.Transcode(impl.FormatXml, impl.FormatXml, []byte(marks)), want)
		checkBytes(t, "from marks to a frame", impl.Transcode(impl.FormatXml, impl.FormatBin, []byte(marks)), impl.BytesResult{Bytes: packOtherwise(treeOtherwise(p))})
		checkBytes(t, "from marks to a pidf", impl.Transcode(impl.FormatXml, impl.FormatPidf, []byte(marks)), impl.BytesResult{Bytes: []byte(pidfMarks(impl.Presence{From: "a@b", Status: p.Status}))})
		checkNoData(t, "one byte more", 1, []byte(marks+" "), impl.ErrMany)
	}
	// A space that is told once by its prefix is told at each element then.
	marks := inPresence(" xmlns:p='"+strings.Repeat("u", 60)+"'", strings.Repeat("<p:x/><y xmlns='v'/>", 10))
	checkData(t, 1, []byte(marks))
	if got := impl.CanonOf(impl.FormatXml, []byte(marks)); got.Code != impl.OK || len(got.Bytes) <= len(marks) {
		t.Errorf("the one way has %d bytes, with the code %d", len(got.Bytes), got.Code)
	}
}

// All that the other format can say at once is not too long.
func TestTheLongestPidfInItsFormat(t *testing.T) {
	for _, sign := range []string{"\"", "&", "\n", "<"} {
		p := impl.Presence{From: strings.Repeat(sign, 55), Show: 3, Status: strings.Repeat("&", 60), Priority: 127}
		got := impl.EncodePresence(impl.FormatPidf, p)
		if got.Code != impl.OK || len(got.Bytes) < 800 || len(got.Bytes) > 1500 {
			t.Errorf("the code is %d, with %d bytes", got.Code, len(got.Bytes))
		}
		checkDecoded(t, impl.FormatPidf, got.Bytes, impl.PresenceResult{Presence: p})
		checkInFormats(t, p)
	}
}

// The bounds of a From, from each format to each one.
func TestNamesThatAreTooLongForTheOtherFormat(t *testing.T) {
	for size := range 64 {
		p := impl.Presence{From: strings.Repeat("a", size)}
		for _, from := range []int64{1, 2} {
			data := impl.EncodePresence(from, p)
			if fault := codeIf(impl.ErrMany, size > 60); data.Code != fault {
				t.Errorf("a From of %d bytes: EncodePresence(%d) has the code %d", size, from, data.Code)
			} else if fault != impl.OK {
				continue
			}
			want := firstOf(codeIf(impl.ErrState, size == 0), codeIf(impl.ErrMany, size > 55))
			if got := impl.Transcode(from, impl.FormatPidf, data.Bytes); got.Code != want || (want == impl.OK) != (len(got.Bytes) > 0) {
				t.Errorf("a From of %d bytes: Transcode(%d, 3) = %+v, want the code %d", size, from, got, want)
			}
		}
		checkInFormats(t, p)
		p.Kind = 1
		checkInFormats(t, p)
	}
}

func TestTranscodeOfWhatTheOtherFormatCannotSay(t *testing.T) {
	for kind := int64(0); kind <= 6; kind++ {
		for _, who := range []string{"", "a@b"} {
			p := impl.Presence{Kind: kind, From: who, To: "c@d", More: rowOfTrees(1)}
			want := impl.BytesResult{Code: impl.ErrState}
			if kind <= 1 && who != "" {
				want = impl.BytesResult{Bytes: []byte(pidfWith([]string{openMark, closedMark}[kind]))}
			}
			for _, from := range []int64{1, 2} {
				data := impl.EncodePresence(from, p)
				checkBytes(t, fmt.Sprintf("Transcode(%d, 3) of %+v", from, p), impl.Transcode(from, impl.FormatPidf, data.Bytes), want)
				checkBytes(t, fmt.Sprintf("Transcode(%d, 4) of %+v", from, p), impl.Transcode(from, 4, data.Bytes), impl.BytesResult{Code: impl.ErrRange})
				checkBytes(t, fmt.Sprintf("Transcode(0, %d) of %+v", from, p), impl.Transcode(0, from, data.Bytes), impl.BytesResult{Code: impl.ErrRange})
			}
		}
	}
}

func TestMoreOfEachNumberOfItemsInFormats(t *testing.T) {
	for count := range 24 {
		for _, more := range [][]impl.Item{rowOfTrees(count), rowOf(max(count, 1))} {
			p := impl.Presence{From: "a@b", More: more}
			for _, format := range formats {
				if got, want := impl.EncodePresence(format, p).Code, codeIf(impl.ErrMany, count > 20); got != want {
					t.Errorf("%d items in the format %d: the code %d, want %d", count, format, got, want)
				}
			}
			checkInFormats(t, p)
			items := treeOtherwise(p)
			checkData(t, 1, []byte(printOtherwise(items)))
			checkData(t, 2, packOtherwise(items))
		}
	}
}

// A frame is read only if it is the one of its tree; its presence may have
// another one.
func TestFramesOfOnePresence(t *testing.T) {
	p := impl.Presence{From: "a@b", Show: 2, Priority: 1}
	own := impl.BytesResult{Bytes: packOtherwise(treeOtherwise(p))}
	turned := packOtherwise(markedItems(t, inPresence(" from='a@b'", "<priority>1</priority><show>chat</show>")))
	if bytes.Equal(turned, own.Bytes) {
		t.Fatal("both orders have one frame")
	}
	for _, frame := range [][]byte{own.Bytes, turned, packOtherwise(markedItems(t, inPresence(" from='a@b' to=''", "<show>chat</show><status/><priority>1</priority>")))} {
		checkDecoded(t, impl.FormatBin, frame, impl.PresenceResult{Presence: p})
		checkBytes(t, "CanonOf a frame", impl.CanonOf(impl.FormatBin, frame), own)
		checkData(t, 2, frame)
	}
	items := treeOtherwise(p)
	list := stringsOtherwise(items)
	for name, other := range map[string][]string{
		"strings the other way round": reversed(list),
		"a string twice":              append(slices.Clone(list), list[0]),
		"a string that nobody names":  append(slices.Clone(list), "z"),
		"such a one ahead":            append([]string{"z"}, list...),
	} {
		frame := formOfPieces(piecesBy(other, items, func(text string) int { return slices.Index(other, text) }))
		checkNoData(t, name, 2, frame, impl.ErrText)
	}
	checkNoData(t, "a byte behind", 2, append(slices.Clone(own.Bytes), 0), impl.ErrText)
	checkNoData(t, "a frame behind", 2, slices.Concat(own.Bytes, own.Bytes), impl.ErrText)
	for size := range own.Bytes {
		checkNoData(t, "a frame that is cut off", 2, own.Bytes[:size], impl.ErrText)
	}
}

// Bytes of each format are cut off, or one of them is taken out, put in or
// turned.
func TestBytesOfEachFormatWithOneTurned(t *testing.T) {
	others := []byte{0, 1, 2, 9, 10, ' ', '"', '&', '\'', '/', '0', '<', '=', '>', 'a', 127, 128, 255}
	for _, at := range []int{3, 6} {
		x := presencesInFormats[at]
		for format, text := range map[int64]string{1: x.marks, 2: x.frame, 3: x.pidf} {
			data := []byte(text)
			read := 0
			check := func(turned []byte) {
				if checkData(t, format, turned).Code == impl.OK {
					read++
				}
			}
			for i := range data {
				check(data[:i])
				check(data[i:])
				check(slices.Delete(slices.Clone(data), i, i+1))
				for _, b := range append(slices.Clone(others), data[i]-1, data[i]+1, data[i]^32) {
					turned := slices.Clone(data)
					turned[i] = b
					check(turned)
					check(slices.Insert(slices.Clone(data), i, b))
				}
			}
			if read < 10 {
				t.Errorf("%s, in the format %d: only %d are read", x.name, format, read)
			}
		}
	}
}

func TestAnswersOfChapter10AreNewMemory(t *testing.T) {
	var lists [][]byte
	var trees [][]impl.Item
	for _, x := range presencesInFormats {
		for format, text := range map[int64]string{1: x.marks, 2: x.frame, 3: x.pidf} {
			p, data := x.presence, []byte(text)
			p.More = copyOf(p.More)
			var answers [][]byte
			answers = append(answers, impl.EncodePresence(format, p).Bytes, impl.CanonOf(format, data).Bytes)
			for _, to := range formats {
				answers = append(answers, impl.Transcode(format, to, data).Bytes)
			}
			more := impl.DecodePresence(format, data).Presence.More
			for _, list := range answers {
				fill(list, 170)
			}
			fillItems(more, "?")
			lists, trees = append(lists, answers...), append(trees, more)
			if string(data) != text || !asOne(p, x.presence) {
				t.Errorf("%s: what is written into an answer shows in its argument", x.name)
			}
			checkEncoded(t, format, p)
			checkData(t, format, data)
		}
	}
	checkFilled(t, lists, 170)
	checkOverwritten(t, trees)
}

// Answers stay as they are when what they were told of turns, and when others
// are asked for.
func TestAnswersOfChapter10DoNotTurnWithArguments(t *testing.T) {
	for _, x := range presencesInFormats {
		for format, text := range map[int64]string{1: x.marks, 2: x.frame, 3: x.pidf} {
			if text == "" {
				continue
			}
			p, data := x.presence, []byte(text)
			p.More = copyOf(p.More)
			written, read, canon, over := impl.EncodePresence(format, p), impl.DecodePresence(format, data), impl.CanonOf(format, data), impl.Transcode(format, format, data)
			again := impl.EncodePresence(format, p)
			fillItems(p.More, "?")
			fill(data, 170)
			fill(again.Bytes, 170)
			for _, y := range presencesInFormats {
				impl.EncodePresence(format, y.presence)
				impl.CanonOf(1, []byte(y.marks))
				impl.CanonOf(2, []byte(y.frame))
			}
			for _, got := range []impl.BytesResult{written, canon, over} {
				checkBytes(t, x.name, got, impl.BytesResult{Bytes: []byte(text)})
			}
			if read.Code != impl.OK || !asOne(read.Presence, saidIn(format, x.presence)) {
				t.Errorf("%s: what was read turns to %+v", x.name, read)
			}
		}
	}
}

// What is written into the Attrs of one item of what was read, or behind their
// end, is in no others, and in no other answer.
func TestListsOfADecodedPresenceShareNothing(t *testing.T) {
	p := impl.Presence{From: "a", More: []impl.Item{{Name: "x", Attrs: attrsOf("a", "1", "b", "2")}, {Depth: 1, Name: "y", Attrs: attrsOf("a", "1", "b", "2")}, {Name: "z", Attrs: attrsOf("a", "1")}}}
	for _, format := range []int64{1, 2} {
		data := impl.EncodePresence(format, p).Bytes
		again := impl.DecodePresence(format, data)
		checkApart(t, fmt.Sprint("DecodePresence of the format ", format), impl.DecodePresence(format, data).Presence.More, copyOf(p.More))
		if !asOne(again.Presence, p) || !asOne(impl.DecodePresence(format, data).Presence, p) {
			t.Errorf("two answers share memory in the format %d", format)
		}
	}
}

// Arguments have more memory behind their ends, and this stays as it is, too.
func TestChapter10ChangesNoArgument(t *testing.T) {
	var datas [][]byte
	var presences []impl.Presence
	for _, x := range presencesInFormats {
		datas = append(datas, []byte(x.marks), []byte(x.frame), []byte(x.pidf))
		presences = append(presences, x.presence)
	}
	for _, x := range noPresences {
		datas = append(datas, []byte(x.value))
	}
	for _, frame := range noFrames {
		datas = append(datas, frame[:min(len(frame), 100)])
	}
	for _, x := range slices.Concat(moresToKnow, noMores) {
		presences = append(presences, impl.Presence{From: "a", More: x.value[:min(len(x.value), 60)]})
	}
	for _, data := range datas {
		roomy := behindEnd(data, 129)
		before := slices.Clone(roomy[:cap(roomy)])
		for format := int64(0); format <= 4; format++ {
			impl.DecodePresence(format, roomy)
			impl.CanonOf(format, roomy)
			for _, to := range formats {
				impl.Transcode(format, to, roomy)
			}
		}
		if !bytes.Equal(roomy[:cap(roomy)], before) {
			t.Errorf("%.300q has been changed", data)
		}
		// What stands behind the end is none of the data.
		for _, format := range formats {
			checkDecoded(t, format, roomy, decodeOtherwise(format, data))
		}
	}
	for _, p := range presences {
		more := withRoom(p.More)
		before := allOf(more)
		p.More = more
		for format := int64(0); format <= 4; format++ {
			impl.EncodePresence(format, p)
		}
		if !sameLists(allOf(more), before) {
			t.Errorf("%+v has been changed", p)
		}
	}
}

// What could not be read or written changes nothing of what comes next, nor does
// what could.
func TestNothingIsKeptFromFormatToFormat(t *testing.T) {
	for _, x := range presencesInFormats {
		want := map[int64]impl.BytesResult{1: {Bytes: []byte(x.marks)}, 2: {Bytes: []byte(x.frame)}, 3: {Code: x.code, Bytes: []byte(x.pidf)}}
		check := func(name string) {
			t.Helper()
			for _, format := range formats {
				checkBytes(t, x.name+" behind "+name, impl.EncodePresence(format, x.presence), want[format])
				checkBytes(t, x.name+" behind "+name, impl.Transcode(2, format, want[2].Bytes), want[format])
				checkBytes(t, x.name+" behind "+name, impl.Transcode(1, format, want[1].Bytes), want[format])
			}
		}
		for _, y := range presencesInFormats {
			for _, format := range formats {
				impl.EncodePresence(format, y.presence)
				impl.DecodePresence(format, []byte(y.marks))
				impl.DecodePresence(format, []byte(y.frame))
				impl.DecodePresence(format, []byte(y.pidf))
			}
			check(y.name)
		}
		for _, y := range noProjections {
			impl.EncodePresence(3, y.value)
			check(y.name)
		}
		for _, y := range noPresences {
			impl.CanonOf(1, []byte(y.value))
			check(y.name)
		}
		for name, frame := range noFrames {
			impl.CanonOf(2, frame)
			check(name)
		}
	}
}

func TestAnswersOfChapter10HangOnArgumentsAlone(t *testing.T) {
	var all sync.WaitGroup
	for range 8 {
		all.Go(func() {
			for i := range 200 {
				x := presencesInFormats[i%len(presencesInFormats)]
				if impl.IsFormat(0) || impl.DecodePresence(1, []byte("<")).Code != impl.ErrText || impl.DecodePresence(2, make([]byte, 3001)).Code != impl.ErrMany || impl.DecodePresence(4, nil).Code != impl.ErrRange || impl.EncodePresence(3, impl.Presence{Kind: 2}).Code != impl.ErrState || impl.Transcode(1, 0, []byte(x.marks)).Code != impl.ErrRange || impl.CanonOf(3, []byte(x.marks)).Code != impl.ErrForm {
					t.Error("a fault is told otherwise at a later call")
				}
				pidf := impl.EncodePresence(3, x.presence)
				if !impl.IsFormat(1) || string(impl.EncodePresence(1, x.presence).Bytes) != x.marks || string(impl.Transcode(1, 2, []byte(x.marks)).Bytes) != x.frame || string(impl.CanonOf(2, []byte(x.frame)).Bytes) != x.frame || pidf.Code != x.code || string(pidf.Bytes) != x.pidf || !asOne(impl.DecodePresence(2, []byte(x.frame)).Presence, x.presence) {
					t.Error("an answer is another one at a later call")
				}
			}
		})
	}
	all.Wait()
}

func FuzzData(f *testing.F) {
	for _, x := range presencesInFormats {
		for _, data := range []string{x.marks, x.frame, x.pidf} {
			for format := int64(0); format <= 4; format++ {
				f.Add(format, []byte(data))
			}
		}
	}
	for _, x := range readOtherwiseWritten {
		f.Add(int64(1), []byte(x.marks))
	}
	for _, x := range noPresences {
		f.Add(int64(1), []byte(x.value))
	}
	for _, frame := range noFrames {
		f.Add(int64(2), frame)
	}
	f.Fuzz(func(t *testing.T, format int64, data []byte) {
		if !isFormatOtherwise(format) {
			checkNoFormat(t, format, impl.Presence{}, data)
			return
		}
		checkData(t, format, data)
	})
}

func FuzzEncodings(f *testing.F) {
	f.Add(int64(0), "a", "b", int64(4), "s", int64(-5), []byte("\x01\x00\x00\x02\x00\x00\x01\x00\x00"))
	f.Add(int64(1), "a", "", int64(0), "s", int64(0), []byte("\x01\x00\x00\x82\x00\x00\x02\x00\x00"))
	f.Add(int64(6), "a", "b", int64(0), "", int64(0), []byte("\x01\x00\xfa\x02\x00\xfb\x83\xf1\x00"))
	f.Add(int64(0), strings.Repeat("a", 56), "b", int64(3), "", int64(127), []byte{})
	f.Fuzz(func(t *testing.T, kind int64, from, to string, show int64, status string, priority int64, data []byte) {
		checkInFormats(t, impl.Presence{Kind: kind, From: from, To: to, Show: show, Status: status, Priority: priority, More: itemsIn(data)})
	})
}
