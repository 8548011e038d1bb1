package tests

import (
	"fmt"
	"math"
	"math/rand"
	"regexp"
	"slices"
	"strings"
	"sync"
	"testing"

	"loop.example/g00795/impl"
)

// The Shows that another format can say, at the places of those that become
// them.
var showsForOthers = []int64{0, 1, 0, 3, 1}

var numbersFarOut = []int64{math.MinInt64, math.MinInt64 + 1, -1 << 32, -1<<32 + 1, -1000, -128, -2, 1 << 16, 1 << 32, 1<<32 + 1, 1<<32 + 500, math.MaxInt64/1000 + 1, math.MaxInt64 / 127, math.MaxInt64 - 1, math.MaxInt64}

// nearest tells which number from 0 to most, by the step, comes nearest to
// wanted; the greater one of two that come as near.
func nearest(wanted, step, most int64) int64 {
	best := int64(0)
	for n := range most + 1 {
		if max(n*step-wanted, wanted-n*step) <= max(best*step-wanted, wanted-best*step) {
			best = n
		}
	}
	return best
}

func thousandthsOtherwise(priority int64) impl.IntResult {
	if priority < 0 || priority > 127 {
		return impl.IntResult{Code: impl.ErrRange}
	}
	return impl.IntResult{Value: nearest(1000*priority, 127, 1000)}
}

func priorityOtherwise(thousandths int64) impl.IntResult {
	if thousandths < 0 || thousandths > 1000 {
		return impl.IntResult{Code: impl.ErrRange}
	}
	return impl.IntResult{Value: nearest(127*thousandths, 1000, 127)}
}

func shareOtherwise(thousandths int64) impl.TextResult {
	if thousandths < 0 || thousandths > 1000 {
		return impl.TextResult{Code: impl.ErrRange}
	}
	return impl.TextResult{Text: fmt.Sprintf("%d.%03d", thousandths/1000, thousandths%1000)}
}

// sharesToKnow are the priorities above 0 by their shares.
var sharesToKnow = func() map[string]int64 {
	shares := map[string]int64{}
	for priority := int64(1); priority <= 127; priority++ {
		shares[shareOtherwise(thousandthsOtherwise(priority).Value).Text] = priority
	}
	return shares
}()

func codeIf(code int64, fault bool) int64 {
	if fault {
		return code
	}
	return impl.OK
}

func projectionOtherwise(p impl.Presence) impl.PresenceResult {
	code := firstOf(presenceFaultOtherwise(p),
		codeIf(impl.ErrState, p.Kind > 1), codeIf(impl.ErrState, p.From == ""), codeIf(impl.ErrMany, len(p.From) > 55))
	if code != impl.OK {
		return impl.PresenceResult{Code: code}
	}
	p.To, p.More = "", nil
	p.Show = showsForOthers[p.Show]
	if p.Priority < 0 {
		p.Priority = 0
	}
	return impl.PresenceResult{Presence: p}
}

// pidfMarks is the text of the pidf of p, which is its own projection.
func pidfMarks(p impl.Presence) string {
	marks := `<presence xmlns="urn:ietf:params:xml:ns:pidf" entity="pres:` + inValue.Replace(p.From) + `"><tuple id="t"><status><basic>`
	marks += []string{"open", "closed"}[p.Kind] + "</basic></status>"
	if p.Show != 0 {
		marks += `<activities xmlns="urn:ietf:params:xml:ns:pidf:rpid"><` + map[int64]string{1: "away", 3: "busy"}[p.Show] + `/></activities>`
	}
	if p.Priority != 0 {
		marks += `<contact priority="` + shareOtherwise(thousandthsOtherwise(p.Priority).Value).Text + `">xmpp:` + inText.Replace(p.From) + `</contact>`
	}
	if p.Status != "" {
		marks += "<note>" + inText.Replace(p.Status) + "</note>"
	}
	return marks + "</tuple></presence>"
}

var aPidf = regexp.MustCompile(`^<presence xmlns="urn:ietf:params:xml:ns:pidf" entity="pres:([^"]+)"><tuple id="t">` +
	`<status><basic>(?:(open)|closed)</basic></status>` +
	`(?:<activities xmlns="urn:ietf:params:xml:ns:pidf:rpid"><(?:(away)|(busy))/></activities>)?` +
	`(?:<contact priority="([^"]*)">xmpp:([^<]+)</contact>)?` +
	`(?:<note>([^<]+)</note>)?</tuple></presence>$`)

// pidfOtherwise reads a tree in its one text. It rests on the TreeFault, on
// PrintXml and on UnescapeText, which have tests of their own.
func pidfOtherwise(items []impl.Item) impl.PresenceResult {
	if fault := impl.TreeFault(items); fault != impl.OK {
		return impl.PresenceResult{Code: fault}
	}
	said := aPidf.FindStringSubmatch(impl.PrintXml(items).Text)
	if said == nil {
		return impl.PresenceResult{Code: impl.ErrForm}
	}
	from, contact := impl.UnescapeText(said[1]).Text, impl.UnescapeText(said[6]).Text
	p := impl.Presence{From: from, Status: impl.UnescapeText(said[7]).Text, Priority: sharesToKnow[said[5]]}
	if said[2] == "" {
		p.Kind = 1
	}
	if said[3] != "" {
		p.Show = 1
	}
	if said[4] != "" {
		p.Show = 3
	}
	noShare := contact != "" && (p.Priority == 0 || contact != from)
	if noShare || len(from) > 55 || p.Kind == 1 && (p.Show != 0 || p.Priority != 0) {
		return impl.PresenceResult{Code: impl.ErrForm}
	}
	return impl.PresenceResult{Presence: p}
}

// checkPidf is the promise of any presence: the projection is what the other one
// tells, and what is said of it in the other format is read back as just that.
func checkPidf(t *testing.T, p impl.Presence) {
	t.Helper()
	want := projectionOtherwise(p)
	got, tree := impl.ProjectionOf(p), impl.PidfOf(p)
	if got.Code != want.Code || !asOne(got.Presence, want.Presence) {
		t.Errorf("ProjectionOf(%+v) = %+v, want %+v", p, got, want)
	}
	if want.Code != impl.OK {
		if tree.Code != want.Code || len(tree.Items) != 0 {
			t.Errorf("PidfOf(%+v) = %+v, want the code %d alone", p, tree, want.Code)
		}
		return
	}
	if again := impl.ProjectionOf(got.Presence); again.Code != impl.OK || !asOne(again.Presence, got.Presence) {
		t.Errorf("ProjectionOf(%+v) = %+v, want itself", got.Presence, again)
	}
	if marks := pidfMarks(want.Presence); tree.Code != impl.OK || impl.TreeFault(tree.Items) != impl.OK || impl.PrintXml(tree.Items).Text != marks || !sameLists(tree.Items, impl.ParseXml(marks).Items) {
		t.Errorf("PidfOf(%+v) = %+v, want %s", p, tree, marks)
	}
	if other := impl.PidfOf(got.Presence); other.Code != impl.OK || !sameLists(other.Items, tree.Items) {
		t.Errorf("PidfOf(%+v) = %+v, want %+v", got.Presence, other, tree.Items)
	}
	if back := impl.PresenceOfPidf(tree.Items); back.Code != impl.OK || !asOne(back.Presence, want.Presence) {
		t.Errorf("PresenceOfPidf(%+v) = %+v, want %+v", tree.Items, back, want.Presence)
	}
}

// checkNoPidf is for presences with a code that is known.
func checkNoPidf(t *testing.T, name string, p impl.Presence, code int64) {
	t.Helper()
	if got := impl.ProjectionOf(p); got.Code != code || !asOne(got.Presence, impl.Presence{}) {
		t.Errorf("%s: ProjectionOf(%+v) = %+v, want the code %d alone", name, p, got, code)
	}
	if got := impl.PidfOf(p); got.Code != code || len(got.Items) != 0 {
		t.Errorf("%s: PidfOf(%+v) = %+v, want the code %d alone", name, p, got, code)
	}
}

// checkPresenceOfPidf is the promise of any items: they are read as the other
// reader does, and what is read has just these items.
func checkPresenceOfPidf(t *testing.T, items []impl.Item) impl.PresenceResult {
	t.Helper()
	want := pidfOtherwise(items)
	if got := impl.PresenceOfPidf(items); got.Code != want.Code || !asOne(got.Presence, want.Presence) {
		t.Errorf("PresenceOfPidf(%+v) = %+v, want %+v", items, got, want)
	}
	if want.Code == impl.OK {
		if tree := impl.PidfOf(want.Presence); !sameLists(tree.Items, items) {
			t.Errorf("PidfOf(%+v) = %+v, want %+v", want.Presence, tree, items)
		}
		checkPidf(t, want.Presence)
	}
	return want
}

const openMark = "<status><basic>open</basic></status>"
const closedMark = "<status><basic>closed</basic></status>"
const awayMark = `<activities xmlns="urn:ietf:params:xml:ns:pidf:rpid"><away/></activities>`
const busyMark = `<activities xmlns="urn:ietf:params:xml:ns:pidf:rpid"><busy/></activities>`
const contactMark = `<contact priority="0.504">xmpp:a@b</contact>`
const noteMark = "<note>s</note>"

// pidfWith is a marked pidf of a@b with that in its tuple.
func pidfWith(inside string) string {
	return `<presence xmlns="urn:ietf:params:xml:ns:pidf" entity="pres:a@b"><tuple id="t">` + inside + "</tuple></presence>"
}

// withActivities is such a one with these in its activities.
func withActivities(inside string) string {
	return pidfWith(openMark + `<activities xmlns="urn:ietf:params:xml:ns:pidf:rpid">` + inside + "</activities>")
}

func withShare(share string) string {
	return pidfWith(openMark + `<contact priority="` + share + `">xmpp:a@b</contact>`)
}

// projectionsToKnow are presences, what becomes of them, and the text of that.
var projectionsToKnow = []struct {
	name      string
	presence  impl.Presence
	projected impl.Presence
	marks     string
}{
	{"a From", impl.Presence{From: "a@b"}, impl.Presence{From: "a@b"}, pidfWith(openMark)},
	{"unavailable", impl.Presence{Kind: 1, From: "a@b"}, impl.Presence{Kind: 1, From: "a@b"}, pidfWith(closedMark)},
	{"unavailable, with a Status", impl.Presence{Kind: 1, From: "a@b", Status: "s"}, impl.Presence{Kind: 1, From: "a@b", Status: "s"}, pidfWith(closedMark + noteMark)},
	{"away", impl.Presence{From: "a@b", Show: 1}, impl.Presence{From: "a@b", Show: 1}, pidfWith(openMark + awayMark)},
	{"chat", impl.Presence{From: "a@b", Show: 2}, impl.Presence{From: "a@b"}, pidfWith(openMark)},
	{"dnd", impl.Presence{From: "a@b", Show: 3}, impl.Presence{From: "a@b", Show: 3}, pidfWith(openMark + busyMark)},
	{"xa", impl.Presence{From: "a@b", Show: 4}, impl.Presence{From: "a@b", Show: 1}, pidfWith(openMark + awayMark)},
	{"a Status", impl.Presence{From: "a@b", Status: "s"}, impl.Presence{From: "a@b", Status: "s"}, pidfWith(openMark + noteMark)},
	{"a blank as Status", impl.Presence{From: "a@b", Status: " "}, impl.Presence{From: "a@b", Status: " "}, pidfWith(openMark + "<note> </note>")},
	{"the Priority 64", impl.Presence{From: "a@b", Priority: 64}, impl.Presence{From: "a@b", Priority: 64}, pidfWith(openMark + contactMark)},
	{"the Priority 1", impl.Presence{From: "a@b", Priority: 1}, impl.Presence{From: "a@b", Priority: 1}, withShare("0.008")},
	{"the Priority 127", impl.Presence{From: "a@b", Priority: 127}, impl.Presence{From: "a@b", Priority: 127}, withShare("1.000")},
	{"the Priority -1", impl.Presence{From: "a@b", Priority: -1}, impl.Presence{From: "a@b"}, pidfWith(openMark)},
	{"the Priority -128", impl.Presence{From: "a@b", Priority: -128}, impl.Presence{From: "a@b"}, pidfWith(openMark)},
	{"a To", impl.Presence{From: "a@b", To: "c@d"}, impl.Presence{From: "a@b"}, pidfWith(openMark)},
	{"More", impl.Presence{From: "a@b", More: []impl.Item{{Space: "u", Name: "x"}, {Depth: 1, Text: "1"}}}, impl.Presence{From: "a@b"}, pidfWith(openMark)},
	{"all of it", impl.Presence{From: "a@b", To: "c@d", Show: 3, Status: "s", Priority: 64, More: []impl.Item{{Space: "u", Name: "x"}}},
		impl.Presence{From: "a@b", Show: 3, Status: "s", Priority: 64}, pidfWith(openMark + busyMark + contactMark + noteMark)},
	{"a Status and a Priority", impl.Presence{From: "a@b", Show: 2, Status: "s", Priority: 64}, impl.Presence{From: "a@b", Status: "s", Priority: 64}, pidfWith(openMark + contactMark + noteMark)},
	{"an activity and a Status", impl.Presence{From: "a@b", Show: 4, Status: "s", Priority: -5}, impl.Presence{From: "a@b", Show: 1, Status: "s"}, pidfWith(openMark + awayMark + noteMark)},
	{"words of the format as texts", impl.Presence{From: "pres:xmpp:", Show: 1, Status: "closed", Priority: 127}, impl.Presence{From: "pres:xmpp:", Show: 1, Status: "closed", Priority: 127},
		`<presence xmlns="urn:ietf:params:xml:ns:pidf" entity="pres:pres:xmpp:"><tuple id="t">` + openMark + awayMark + `<contact priority="1.000">xmpp:pres:xmpp:</contact><note>closed</note></tuple></presence>`},
	{"signs that mean something", impl.Presence{Kind: 1, From: "<\"&\n", Status: ">\t\""}, impl.Presence{Kind: 1, From: "<\"&\n", Status: ">\t\""},
		`<presence xmlns="urn:ietf:params:xml:ns:pidf" entity="pres:&lt;&quot;&amp;&#10;"><tuple id="t">` + closedMark + "<note>&gt;\t\"</note></tuple></presence>"},
}

// noProjections are presences of which nothing can be said, with their codes.
var noProjections = []choice[impl.Presence]{
	{"nothing", impl.Presence{}, impl.ErrState},
	{"no From", impl.Presence{To: "c@d", Show: 1, Status: "s", Priority: 5}, impl.ErrState},
	{"unavailable, without a From", impl.Presence{Kind: 1, Status: "s"}, impl.ErrState},
	{"subscribe", impl.Presence{Kind: 2, From: "a"}, impl.ErrState},
	{"subscribed", impl.Presence{Kind: 3, From: "a"}, impl.ErrState},
	{"unsubscribe", impl.Presence{Kind: 4, From: "a"}, impl.ErrState},
	{"unsubscribed", impl.Presence{Kind: 5, From: "a"}, impl.ErrState},
	{"probe", impl.Presence{Kind: 6, From: "a"}, impl.ErrState},
	{"a probe without a From", impl.Presence{Kind: 6}, impl.ErrState},
	{"a From of 56 bytes", impl.Presence{From: strings.Repeat("a", 56)}, impl.ErrMany},
	{"a From of 60 bytes", impl.Presence{From: strings.Repeat("a", 60)}, impl.ErrMany},
	{"a From of 61 bytes", impl.Presence{From: strings.Repeat("a", 61)}, impl.ErrMany},
	{"a From of 57 bytes in 19 points", impl.Presence{From: strings.Repeat("\xe2\x82\xac", 19)}, impl.ErrMany},
	{"unavailable, with a From of 56 bytes", impl.Presence{Kind: 1, From: strings.Repeat("a", 56)}, impl.ErrMany},
	{"a probe with a From of 56 bytes", impl.Presence{Kind: 6, From: strings.Repeat("a", 56)}, impl.ErrState},
	{"a probe with a From of 61 bytes", impl.Presence{Kind: 6, From: strings.Repeat("a", 61)}, impl.ErrMany},

	{"the Kind 7", impl.Presence{Kind: 7, From: "a"}, impl.ErrRange},
	{"the Kind -1, without a From", impl.Presence{Kind: -1}, impl.ErrRange},
	{"the Show 5", impl.Presence{From: "a", Show: 5}, impl.ErrRange},
	{"the Priority 128", impl.Presence{From: "a", Priority: 128}, impl.ErrRange},
	{"the Priority -129", impl.Presence{From: "a", Priority: -129}, impl.ErrRange},
	{"the Priority -129, without a From", impl.Presence{Priority: -129}, impl.ErrRange},
	{"a From with a byte 0", impl.Presence{From: "a\x00"}, impl.ErrText},
	{"a long From with a byte 0", impl.Presence{From: strings.Repeat("a", 56) + "\x00"}, impl.ErrText},
	{"a To of 61 bytes", impl.Presence{From: "a", To: strings.Repeat("a", 61)}, impl.ErrMany},
	{"a To with a byte 0, without a From", impl.Presence{To: "\x00"}, impl.ErrText},
	{"a Status of 61 bytes, without a From", impl.Presence{Status: strings.Repeat("a", 61)}, impl.ErrMany},
	{"a Status with half a point", impl.Presence{From: "a", Status: "\xe2\x82"}, impl.ErrText},
	{"unavailable, with a Show", impl.Presence{Kind: 1, From: "a", Show: 1}, impl.ErrForm},
	{"unavailable, with a Show that is left out", impl.Presence{Kind: 1, From: "a", Show: 2}, impl.ErrForm},
	{"unavailable, with a Priority below 0", impl.Presence{Kind: 1, From: "a", Priority: -1}, impl.ErrForm},
	{"a probe with a Status", impl.Presence{Kind: 6, From: "a", Status: "s"}, impl.ErrForm},
	{"a probe with a Status and a long From", impl.Presence{Kind: 6, From: strings.Repeat("a", 56), Status: "s"}, impl.ErrForm},
	{"21 trees", impl.Presence{From: "a", More: rowOfTrees(21)}, impl.ErrMany},
	{"21 trees, without a From", impl.Presence{More: rowOfTrees(21)}, impl.ErrMany},
	{"More of the ClientSpace, and a long From", impl.Presence{From: strings.Repeat("a", 56), More: []impl.Item{{Space: "jabber:client", Name: "x"}}}, impl.ErrForm},
	{"More too deep of a probe", impl.Presence{Kind: 6, From: "a", More: chainOf(6)}, impl.ErrRange},
}

// otherTuples are what is in a tuple that no presence has.
var otherTuples = []struct {
	name   string
	inside string
}{
	{"nothing", ""},
	{"no status", awayMark + contactMark + noteMark},
	{"no basic", "<status/>"},
	{"nothing in basic", "<status><basic/></status>"},
	{"another word", "<status><basic>Open</basic></status>"},
	{"a word with a blank", "<status><basic>open </basic></status>"},
	{"a word and a blank in the status", "<status><basic>open</basic> </status>"},
	{"a word in the status", "<status>open</status>"},
	{"a word of nothing", "<status><basic>away</basic></status>"},
	{"both words", "<status><basic>openclosed</basic></status>"},
	{"basic twice", "<status><basic>open</basic><basic>open</basic></status>"},
	{"basic open and closed", "<status><basic>open</basic><basic>closed</basic></status>"},
	{"an element in basic", "<status><basic>open<x/></basic></status>"},
	{"the word as an element", "<status><basic><open/></basic></status>"},
	{"a basic with an Attr", "<status><basic a=''>open</basic></status>"},
	{"a status with an Attr", "<status id='t'><basic>open</basic></status>"},
	{"basic without a status", "<basic>open</basic>"},
	{"a basic of another Space", "<status><basic xmlns='u'>open</basic></status>"},
	{"a status of another Space", "<status xmlns='u'><basic xmlns='" + impl.PidfSpace + "'>open</basic></status>"},
	{"a status twice", openMark + openMark},
	{"a status open and closed", openMark + closedMark},
	{"a status behind all else", awayMark + contactMark + noteMark + openMark},

	{"away twice in two activities", openMark + awayMark + awayMark},
	{"away and busy in two activities", openMark + awayMark + busyMark},
	{"busy and away in two activities", openMark + busyMark + awayMark},
	{"an activity of one that is not there", closedMark + awayMark},
	{"an activity ahead of the status", awayMark + openMark},
	{"activities of the PidfSpace", openMark + "<activities><away/></activities>"},
	{"away of the PidfSpace", openMark + "<r:activities xmlns:r='" + impl.RpidSpace + "'><away/></r:activities>"},
	{"activities of the PidfSpace, with away of the other one", openMark + "<activities><away xmlns='" + impl.RpidSpace + "'/></activities>"},
	{"activities of no Space", openMark + "<activities xmlns=''><away/></activities>"},
	{"activities with an Attr", openMark + "<activities xmlns='" + impl.RpidSpace + "' id=''><away/></activities>"},
	{"away without activities", openMark + "<away xmlns='" + impl.RpidSpace + "'/>"},
	{"activities in the status", "<status><basic>open</basic>" + awayMark + "</status>"},

	{"a contact twice", openMark + contactMark + contactMark},
	{"two contacts", openMark + contactMark + "<contact priority='1.000'>xmpp:a@b</contact>"},
	{"a contact of one that is not there", closedMark + contactMark},
	{"a contact ahead of the status", contactMark + openMark},
	{"a contact ahead of an activity", openMark + contactMark + awayMark},
	{"a contact without a priority", openMark + "<contact>xmpp:a@b</contact>"},
	{"a contact with another Attr", openMark + "<contact priority='0.504' x=''>xmpp:a@b</contact>"},
	{"a contact with its priority under another name", openMark + "<contact share='0.504'>xmpp:a@b</contact>"},
	{"a contact of another Space", openMark + "<contact xmlns='" + impl.RpidSpace + "' priority='0.504'>xmpp:a@b</contact>"},
	{"nothing in the contact", openMark + "<contact priority='0.504'/>"},
	{"a contact of another one", openMark + "<contact priority='0.504'>xmpp:a@c</contact>"},
	{"a contact that is longer", openMark + "<contact priority='0.504'>xmpp:a@b/c</contact>"},
	{"a contact that is shorter", openMark + "<contact priority='0.504'>xmpp:a@</contact>"},
	{"a contact of nobody", openMark + "<contact priority='0.504'>xmpp:</contact>"},
	{"a contact that is the entity", openMark + "<contact priority='0.504'>pres:a@b</contact>"},
	{"a contact without xmpp:", openMark + "<contact priority='0.504'>a@b</contact>"},
	{"a contact in great letters", openMark + "<contact priority='0.504'>XMPP:a@b</contact>"},
	{"a contact with a blank", openMark + "<contact priority='0.504'> xmpp:a@b</contact>"},
	{"an element in the contact", openMark + "<contact priority='0.504'>xmpp:a@b<x/></contact>"},

	{"an empty note", openMark + "<note/>"},
	{"a note twice", openMark + noteMark + noteMark},
	{"two notes", openMark + noteMark + "<note>o</note>"},
	{"a note and an empty one", openMark + noteMark + "<note/>"},
	{"a note ahead of the status", noteMark + openMark},
	{"a note ahead of an activity", openMark + noteMark + awayMark},
	{"a note ahead of a contact", openMark + noteMark + contactMark},
	{"a note with an Attr", openMark + "<note xml:lang='de'>s</note>"},
	{"a note of another Space", openMark + "<note xmlns=''>s</note>"},
	{"an element in the note", openMark + "<note>s<x/></note>"},
	{"a text in an element in the note", openMark + "<note><b>s</b></note>"},

	{"another element", openMark + "<timestamp/>"},
	{"another element of another Space", openMark + "<x xmlns='u'/>"},
	{"another element ahead", "<x/>" + openMark},
	{"a presence", openMark + "<presence/>"},
	{"a tuple", "<tuple id='t'>" + openMark + "</tuple>"},
	{"a show", openMark + "<show>away</show>"},
	{"a text", "open"},
	{"a text behind the status", openMark + "s"},
	{"a blank ahead of the status", " " + openMark},
	{"a blank behind the note", openMark + noteMark + " "},
	{"a line feed between", openMark + "\n" + awayMark},
}

// otherActivities are what is in activities that no presence has.
var otherActivities = []string{
	"", " ", "away", "<away/><away/>", "<away/><busy/>", "<busy/><away/>", "<busy/><busy/>", "<away/> ", " <busy/>", "<away/>away", "<vacation/>", "<vacation/><away/>", "<away/><vacation/>",
	"<Away/>", "<chat/>", "<dnd/>", "<xa/>", "<open/>", "<activities/>", "<activities><away/></activities>", "<away a=''/>", "<busy id='t'/>", "<away>x</away>", "<away><busy/></away>", "<busy><away/></busy>",
	"<away xmlns=''/>", "<away xmlns='urn:ietf:params:xml:ns:pidf'/>", "<busy xmlns='urn:ietf:params:xml:ns:pidf:rpi'/>", "<x><away/></x>",
}

// otherMarks are trees otherwise that no presence has.
var otherMarks = []struct {
	name  string
	marks string
}{
	{"a stanza", `<presence xmlns="jabber:client" from="a@b"/>`},
	{"no tuple", `<presence xmlns="urn:ietf:params:xml:ns:pidf" entity="pres:a@b"/>`},
	{"no tuple about the status", `<presence xmlns="urn:ietf:params:xml:ns:pidf" entity="pres:a@b">` + openMark + `</presence>`},
	{"no Space", `<presence entity="pres:a@b"><tuple id="t">` + openMark + `</tuple></presence>`},
	{"no Space but the tuple's", `<presence entity="pres:a@b"><tuple xmlns="urn:ietf:params:xml:ns:pidf" id="t">` + openMark + `</tuple></presence>`},
	{"another Space", `<presence xmlns="urn:ietf:params:xml:ns:pidf:rpid" entity="pres:a@b"><tuple id="t">` + openMark + `</tuple></presence>`},
	{"a Space in great letters", `<presence xmlns="URN:ietf:params:xml:ns:pidf" entity="pres:a@b"><tuple id="t">` + openMark + `</tuple></presence>`},
	{"another name", `<presences xmlns="urn:ietf:params:xml:ns:pidf" entity="pres:a@b"><tuple id="t">` + openMark + `</tuple></presences>`},
	{"no entity", `<presence xmlns="urn:ietf:params:xml:ns:pidf"><tuple id="t">` + openMark + `</tuple></presence>`},
	{"an empty entity", `<presence xmlns="urn:ietf:params:xml:ns:pidf" entity=""><tuple id="t">` + openMark + `</tuple></presence>`},
	{"an entity of nobody", `<presence xmlns="urn:ietf:params:xml:ns:pidf" entity="pres:"><tuple id="t">` + openMark + `</tuple></presence>`},
	{"an entity without pres:", `<presence xmlns="urn:ietf:params:xml:ns:pidf" entity="a@b"><tuple id="t">` + openMark + `</tuple></presence>`},
	{"an entity with xmpp:", `<presence xmlns="urn:ietf:params:xml:ns:pidf" entity="xmpp:a@b"><tuple id="t">` + openMark + `</tuple></presence>`},
	{"an entity in great letters", `<presence xmlns="urn:ietf:params:xml:ns:pidf" entity="PRES:a@b"><tuple id="t">` + openMark + `</tuple></presence>`},
	{"an entity with a blank", `<presence xmlns="urn:ietf:params:xml:ns:pidf" entity=" pres:a@b"><tuple id="t">` + openMark + `</tuple></presence>`},
	{"an entity without the colon", `<presence xmlns="urn:ietf:params:xml:ns:pidf" entity="pres"><tuple id="t">` + openMark + `</tuple></presence>`},
	{"an entity of 60 bytes without pres:", `<presence xmlns="urn:ietf:params:xml:ns:pidf" entity="` + strings.Repeat("a", 60) + `"><tuple id="t">` + openMark + `</tuple></presence>`},
	{"an entity under another name", `<presence xmlns="urn:ietf:params:xml:ns:pidf" from="pres:a@b"><tuple id="t">` + openMark + `</tuple></presence>`},
	{"another Attr ahead", `<presence xmlns="urn:ietf:params:xml:ns:pidf" a="" entity="pres:a@b"><tuple id="t">` + openMark + `</tuple></presence>`},
	{"another Attr behind", `<presence xmlns="urn:ietf:params:xml:ns:pidf" entity="pres:a@b" xml:lang="de"><tuple id="t">` + openMark + `</tuple></presence>`},
	{"no id", `<presence xmlns="urn:ietf:params:xml:ns:pidf" entity="pres:a@b"><tuple>` + openMark + `</tuple></presence>`},
	{"an empty id", `<presence xmlns="urn:ietf:params:xml:ns:pidf" entity="pres:a@b"><tuple id="">` + openMark + `</tuple></presence>`},
	{"another id", `<presence xmlns="urn:ietf:params:xml:ns:pidf" entity="pres:a@b"><tuple id="T">` + openMark + `</tuple></presence>`},
	{"an id and another Attr", `<presence xmlns="urn:ietf:params:xml:ns:pidf" entity="pres:a@b"><tuple id="t" x="">` + openMark + `</tuple></presence>`},
	{"an id under another name", `<presence xmlns="urn:ietf:params:xml:ns:pidf" entity="pres:a@b"><tuple name="t">` + openMark + `</tuple></presence>`},
	{"a tuple of another Space", `<presence xmlns="urn:ietf:params:xml:ns:pidf" entity="pres:a@b"><tuple xmlns="u" id="t"><status xmlns="urn:ietf:params:xml:ns:pidf"><basic>open</basic></status></tuple></presence>`},
	{"a tuple twice", `<presence xmlns="urn:ietf:params:xml:ns:pidf" entity="pres:a@b"><tuple id="t">` + openMark + `</tuple><tuple id="t">` + openMark + `</tuple></presence>`},
	{"two tuples", `<presence xmlns="urn:ietf:params:xml:ns:pidf" entity="pres:a@b"><tuple id="t">` + openMark + `</tuple><tuple id="u">` + closedMark + `</tuple></presence>`},
	{"a text ahead of the tuple", `<presence xmlns="urn:ietf:params:xml:ns:pidf" entity="pres:a@b"> <tuple id="t">` + openMark + `</tuple></presence>`},
	{"a text behind the tuple", `<presence xmlns="urn:ietf:params:xml:ns:pidf" entity="pres:a@b"><tuple id="t">` + openMark + `</tuple>x</presence>`},
	{"an activity behind the tuple", `<presence xmlns="urn:ietf:params:xml:ns:pidf" entity="pres:a@b"><tuple id="t">` + openMark + `</tuple>` + awayMark + `</presence>`},
	{"a contact behind the tuple", `<presence xmlns="urn:ietf:params:xml:ns:pidf" entity="pres:a@b"><tuple id="t">` + openMark + `</tuple>` + contactMark + `</presence>`},
	{"a note behind the tuple", `<presence xmlns="urn:ietf:params:xml:ns:pidf" entity="pres:a@b"><tuple id="t">` + openMark + `</tuple>` + noteMark + `</presence>`},
	{"a note ahead of the tuple", `<presence xmlns="urn:ietf:params:xml:ns:pidf" entity="pres:a@b">` + noteMark + `<tuple id="t">` + openMark + `</tuple></presence>`},
	{"all of it in another element", `<x>` + pidfWith(openMark) + `</x>`},
	{"all of it in itself", `<presence xmlns="urn:ietf:params:xml:ns:pidf" entity="pres:a@b">` + pidfWith(openMark) + `</presence>`},
}

func TestConstantsOfChapter8(t *testing.T) {
	if impl.PidfSpace != "urn:ietf:params:xml:ns:pidf" || impl.RpidSpace != "urn:ietf:params:xml:ns:pidf:rpid" {
		t.Error("PidfSpace or RpidSpace is another one")
	}
}

func checkNumbersOfShares(t *testing.T, n int64) {
	t.Helper()
	if got, want := impl.ThousandthsOf(n), thousandthsOtherwise(n); got != want {
		t.Errorf("ThousandthsOf(%d) = %+v, want %+v", n, got, want)
	}
	if got, want := impl.PriorityOf(n), priorityOtherwise(n); got != want {
		t.Errorf("PriorityOf(%d) = %+v, want %+v", n, got, want)
	}
	if got, want := impl.ShareText(n), shareOtherwise(n); got != want {
		t.Errorf("ShareText(%d) = %+v, want %+v", n, got, want)
	}
}

func TestNumbersOfShares(t *testing.T) {
	for n := int64(-2000); n <= 20000; n++ {
		checkNumbersOfShares(t, n)
	}
	for _, far := range numbersFarOut {
		for n := int64(-2); n <= 2; n++ {
			checkNumbersOfShares(t, far+n)
		}
	}
	for n := int64(-1100); n <= 1100; n++ {
		checkNumbersOfShares(t, 1<<32+n)
		checkNumbersOfShares(t, math.MinInt64/1000+n)
	}
}

func TestNumbersOfSharesToKnow(t *testing.T) {
	for priority, thousandths := range map[int64]int64{0: 0, 1: 8, 2: 16, 3: 24, 7: 55, 8: 63, 63: 496, 64: 504, 100: 787, 126: 992, 127: 1000} {
		if got := impl.ThousandthsOf(priority); (got != impl.IntResult{Value: thousandths}) {
			t.Errorf("ThousandthsOf(%d) = %+v, want %d", priority, got, thousandths)
		}
	}
	for thousandths, priority := range map[int64]int64{0: 0, 3: 0, 4: 1, 8: 1, 11: 1, 12: 2, 499: 63, 500: 64, 501: 64, 504: 64, 996: 126, 997: 127, 1000: 127} {
		if got := impl.PriorityOf(thousandths); (got != impl.IntResult{Value: priority}) {
			t.Errorf("PriorityOf(%d) = %+v, want %d", thousandths, got, priority)
		}
	}
	for thousandths, text := range map[int64]string{0: "0.000", 1: "0.001", 7: "0.007", 10: "0.010", 99: "0.099", 100: "0.100", 504: "0.504", 999: "0.999", 1000: "1.000"} {
		if got := impl.ShareText(thousandths); (got != impl.TextResult{Text: text}) {
			t.Errorf("ShareText(%d) = %+v, want %q", thousandths, got, text)
		}
	}
	for _, n := range []int64{-1, 1001} {
		if (impl.PriorityOf(n) != impl.IntResult{Code: impl.ErrRange}) || (impl.ShareText(n) != impl.TextResult{Code: impl.ErrRange}) {
			t.Errorf("%d is one of the thousandths", n)
		}
	}
	for _, n := range []int64{-1, 128, 504, 1000} {
		if (impl.ThousandthsOf(n) != impl.IntResult{Code: impl.ErrRange}) {
			t.Errorf("%d is a priority with thousandths", n)
		}
	}
}

func TestPrioritiesComeBackFromTheirThousandths(t *testing.T) {
	met := map[string]bool{}
	for priority := int64(-1); priority <= 128; priority++ {
		thousandths := impl.ThousandthsOf(priority)
		if priority < 0 || priority > 127 {
			if (thousandths != impl.IntResult{Code: impl.ErrRange}) {
				t.Errorf("ThousandthsOf(%d) = %+v, want ErrRange alone", priority, thousandths)
			}
			continue
		}
		if got := impl.PriorityOf(thousandths.Value); (got != impl.IntResult{Value: priority}) {
			t.Errorf("PriorityOf(%d) = %+v, want %d", thousandths.Value, got, priority)
		}
		share := impl.ShareText(thousandths.Value)
		if share.Code != impl.OK || met[share.Text] {
			t.Errorf("the share of %d is %+v", priority, share)
		}
		met[share.Text] = true
	}
	for thousandths := int64(-1); thousandths <= 1001; thousandths++ {
		priority := impl.PriorityOf(thousandths)
		if inside := thousandths >= 0 && thousandths <= 1000; inside != (priority.Code == impl.OK) {
			t.Errorf("PriorityOf(%d) = %+v", thousandths, priority)
		}
		if back := impl.PriorityOf(impl.ThousandthsOf(priority.Value).Value); priority.Code == impl.OK && back != priority {
			t.Errorf("%d has the priority %d, which comes back as %+v", thousandths, priority.Value, back)
		}
	}
}

func TestProjectionsToKnow(t *testing.T) {
	for _, x := range projectionsToKnow {
		if got := impl.ProjectionOf(x.presence); got.Code != impl.OK || !asOne(got.Presence, x.projected) {
			t.Errorf("%s: ProjectionOf tells %+v, want %+v", x.name, got, x.projected)
		}
		items := markedItems(t, x.marks)
		if got := impl.PidfOf(x.presence); got.Code != impl.OK || !sameLists(got.Items, items) || impl.PrintXml(got.Items).Text != x.marks {
			t.Errorf("%s: PidfOf tells %+v, want %s", x.name, got, x.marks)
		}
		if got := impl.PresenceOfPidf(items); got.Code != impl.OK || !asOne(got.Presence, x.projected) {
			t.Errorf("%s: PresenceOfPidf tells %+v, want %+v", x.name, got, x.projected)
		}
		if got := checkPresenceOfPidf(t, items); got.Code != impl.OK || !asOne(got.Presence, x.projected) {
			t.Errorf("%s: the other reader tells %+v, want %+v", x.name, got, x.projected)
		}
		checkPidf(t, x.presence)
	}
}

func TestPresencesWithoutAProjection(t *testing.T) {
	for _, x := range noProjections {
		checkNoPidf(t, x.name, x.value, x.code)
		checkPidf(t, x.value)
	}
	for _, x := range noMores {
		checkNoPidf(t, x.name, impl.Presence{From: "a", More: x.value}, x.code)
		checkNoPidf(t, x.name, impl.Presence{More: x.value}, x.code)
		checkNoPidf(t, x.name, impl.Presence{Kind: 6, From: strings.Repeat("a", 56), More: x.value}, x.code)
	}
	for _, x := range textChoices {
		checkNoPidf(t, x.name, impl.Presence{Kind: 2, From: x.value}, firstOf(x.code, impl.ErrState))
		checkNoPidf(t, x.name, impl.Presence{To: x.value}, firstOf(x.code, impl.ErrState))
		checkNoPidf(t, x.name, impl.Presence{Status: x.value}, firstOf(x.code, impl.ErrState))
	}
}

// fromChoices are a From by what it alone leads to.
var fromChoices = []choice[string]{
	{"no From", "", impl.ErrState}, {"a From", "a@b", impl.OK}, {"a From of 55 bytes", strings.Repeat("a", 55), impl.OK},
	{"a From of 56 bytes", strings.Repeat("a", 56), impl.ErrMany}, {"a From of 61 bytes", strings.Repeat("a", 61), impl.ErrMany}, {"a From with a byte 0", "\x00", impl.ErrText},
}

// The codes of all fields, in order.
func TestProjectionOfAllFields(t *testing.T) {
	for _, kind := range kindChoices {
		for _, show := range showChoices {
			for _, priority := range priorityChoices {
				for _, more := range fewMores {
					for _, from := range fromChoices {
						for _, status := range fewTexts {
							checkPidf(t, impl.Presence{Kind: kind.value, From: from.value, Show: show.value, Status: status.value, Priority: priority.value, More: more.value})
						}
						for _, to := range fewTexts {
							checkPidf(t, impl.Presence{Kind: kind.value, From: from.value, To: to.value, Show: show.value, Priority: priority.value, More: more.value})
						}
					}
				}
			}
		}
	}
}

// The order of all codes, without asking the other one.
func TestCodesOfProjections(t *testing.T) {
	for _, kind := range kindChoices {
		for _, more := range fewMores {
			for _, from := range fromChoices {
				state := codeIf(impl.ErrState, kind.value > 1 || from.value == "")
				fault := firstOf(kind.code, impl.TextFault(from.value), more.code)
				code := firstOf(fault, state, from.code)
				p := impl.Presence{Kind: kind.value, From: from.value, More: more.value}
				if code != impl.OK {
					checkNoPidf(t, kind.name+"; "+from.name+"; More: "+more.name, p, code)
				} else if got := impl.ProjectionOf(p); got.Code != impl.OK || !asOne(got.Presence, impl.Presence{Kind: kind.value, From: from.value}) {
					t.Errorf("%s; %s; More: %s: %+v", kind.name, from.name, more.name, got)
				}
			}
		}
	}
}

func TestNamesOfEachSize(t *testing.T) {
	for size := range 130 {
		want := int64(impl.OK)
		if size == 0 {
			want = impl.ErrState
		} else if size > 55 {
			want = impl.ErrMany
		}
		for kind := range int64(2) {
			for _, from := range []string{strings.Repeat("a", size), strings.Repeat("&", size), strings.Repeat("\xe2\x82\xac", size/3) + "ab"[:size%3], strings.Repeat(" ", size)} {
				p := impl.Presence{Kind: kind, From: from, Status: strings.Repeat("<", size%61), Priority: (1 - kind) * 127}
				if want == impl.OK {
					checkPidf(t, p)
				} else {
					checkNoPidf(t, fmt.Sprint("a From of ", size, " bytes"), p, want)
				}
			}
		}
	}
}

// The longest of all: each text has as many bytes as it may have.
func TestTheLongestPidf(t *testing.T) {
	from, status := strings.Repeat("\"", 55), strings.Repeat("&", 60)
	p := impl.Presence{From: from, To: status, Show: 4, Status: status, Priority: 127, More: rowOfTrees(20)}
	checkPidf(t, p)
	items := impl.PidfOf(p).Items
	if len(items) != 11 || len(items[0].Attrs[0].Value) != 60 || len(items[8].Text) != 60 || len(items[10].Text) != 60 {
		t.Errorf("the items are %+v", items)
	}
	if got := impl.ParseXml(impl.PrintXml(items).Text); got.Code != impl.OK || !sameLists(got.Items, items) {
		t.Errorf("the text of %+v is read as %+v", items, got)
	}
}

func TestEachKindShowAndPriority(t *testing.T) {
	for priority := int64(-130); priority <= 130; priority++ {
		for show := int64(-1); show <= 5; show++ {
			for kind := int64(-1); kind <= 7; kind++ {
				p := impl.Presence{Kind: kind, From: "a@b", Show: show, Priority: priority}
				checkPidf(t, p)
				p.Status, p.To = "s", "c@d"
				checkPidf(t, p)
			}
		}
	}
}

func TestWhatEachShowBecomes(t *testing.T) {
	for show, becomes := range map[int64]int64{impl.ShowNone: impl.ShowNone, impl.ShowAway: impl.ShowAway, impl.ShowChat: impl.ShowNone, impl.ShowDnd: impl.ShowDnd, impl.ShowXa: impl.ShowAway} {
		if got := impl.ProjectionOf(impl.Presence{From: "a", Show: show}); got.Code != impl.OK || !asOne(got.Presence, impl.Presence{From: "a", Show: becomes}) {
			t.Errorf("the Show %d becomes %+v, want %d", show, got, becomes)
		}
	}
}

// somePresenceForOthers is a presence without a fault. Most have a projection.
func somePresenceForOthers(from *rand.Rand) impl.Presence {
	p := somePresence(from)
	if from.Intn(8) > 0 {
		p.From = "x" + someText(from, from.Intn(20))
	}
	if p.Kind > impl.KindUnavailable && from.Intn(4) > 0 {
		p.Kind = impl.KindUnavailable
	}
	return p
}

func TestPresencesForOthers(t *testing.T) {
	from := rand.New(rand.NewSource(8))
	projected := 0
	for range 5000 {
		p := somePresenceForOthers(from)
		checkPidf(t, p)
		if projectionOtherwise(p).Code == impl.OK {
			projected++
		}
	}
	if projected < 2000 {
		t.Errorf("only %d of 5000 have a projection", projected)
	}
	for _, x := range moresToKnow {
		checkPidf(t, impl.Presence{From: "a", Show: 4, Status: "s", Priority: -1, More: x.value})
		checkPidf(t, impl.Presence{Kind: 1, From: "a", To: "b", Status: "s", More: x.value})
	}
	for _, x := range append([]choice[string]{{"no byte", "", impl.OK}}, textChoices...) {
		checkPidf(t, impl.Presence{From: x.value, Priority: 64, Show: 3})
		checkPidf(t, impl.Presence{From: "a", To: x.value, Priority: 64})
		checkPidf(t, impl.Presence{From: "a", Status: x.value, Show: 1})
		checkPidf(t, impl.Presence{Kind: 1, From: x.value, Status: x.value})
	}
}

// Presences that differ once they are projected have trees that differ.
func TestPidfsOfPresencesThatDiffer(t *testing.T) {
	trees := map[string]impl.Presence{}
	for kind := range int64(2) {
		for _, show := range []int64{0, 1, 3} {
			for priority := range int64(128) {
				for _, from := range []string{"a", "b", "pres:a"} {
					for _, status := range []string{"", "a", "open", "closed"} {
						p := impl.Presence{Kind: kind, From: from, Show: show, Status: status, Priority: priority}
						if kind == 1 && (show != 0 || priority != 0) {
							continue
						}
						marks := impl.PrintXml(impl.PidfOf(p).Items).Text
						if other, met := trees[marks]; met || marks == "" {
							t.Fatalf("%+v and %+v have the same pidf %s", p, other, marks)
						}
						trees[marks] = p
					}
				}
			}
		}
	}
}

// checkNoPresenceOfPidf is for trees of which it is known that no presence has
// them.
func checkNoPresenceOfPidf(t *testing.T, name string, items []impl.Item, code int64) {
	t.Helper()
	if got := impl.PresenceOfPidf(items); got.Code != code || !asOne(got.Presence, impl.Presence{}) {
		t.Errorf("%s: PresenceOfPidf(%+v) = %+v, want the code %d alone", name, items, got, code)
	}
	checkPresenceOfPidf(t, items)
}

func TestTreesThatAreNoPidf(t *testing.T) {
	for _, x := range otherMarks {
		checkNoPresenceOfPidf(t, x.name, markedItems(t, x.marks), impl.ErrForm)
	}
	for _, x := range otherTuples {
		checkNoPresenceOfPidf(t, "in the tuple: "+x.name, markedItems(t, pidfWith(x.inside)), impl.ErrForm)
	}
	for _, inside := range otherActivities {
		checkNoPresenceOfPidf(t, "the activities "+inside, markedItems(t, withActivities(inside)), impl.ErrForm)
	}
	for _, items := range treesToKnow {
		checkNoPresenceOfPidf(t, "a tree", items, impl.ErrForm)
	}
	for _, x := range presencesToKnow {
		checkNoPresenceOfPidf(t, "the stanza of "+x.name, markedItems(t, x.marks), impl.ErrForm)
	}
}

// Activities are read alone, and of one that is there.
func TestActivities(t *testing.T) {
	words := []string{"<away/>", "<busy/>", "<vacation/>", "<away a=''/>", "<x><away/></x>", "away", "<busy>x</busy>", "<away xmlns=''/>"}
	eachRow(words, 3, func(inside string) {
		read := impl.ParseXml(withActivities(inside))
		got := checkPresenceOfPidf(t, read.Items)
		if want := inside == "<away/>" || inside == "<busy/>"; want != (got.Code == impl.OK) {
			t.Errorf("the activities %s: %+v", inside, got)
		}
	})
}

// Of all shares only those of priorities above 0 are read, and only in their one
// form.
func TestShares(t *testing.T) {
	check := func(share string) {
		t.Helper()
		priority, ok := sharesToKnow[share]
		items := impl.PidfOf(impl.Presence{From: "a@b", Priority: 64}).Items
		items[5].Attrs[0].Value = share
		if !ok {
			checkNoPresenceOfPidf(t, "the share "+share, items, impl.ErrForm)
		} else if got := impl.PresenceOfPidf(items); got.Code != impl.OK || !asOne(got.Presence, impl.Presence{From: "a@b", Priority: priority}) {
			t.Errorf("the share %s: %+v, want the priority %d", share, got, priority)
		}
	}
	read := 0
	for n := range 2100 {
		share := fmt.Sprintf("%d.%03d", n/1000, n%1000)
		check(share)
		if impl.PresenceOfPidf(impl.ParseXml(withShare(share)).Items).Code == impl.OK {
			read++
		}
		check(fmt.Sprint(n))
		check(fmt.Sprintf("%g", float64(n)/1000))
	}
	if read != 127 {
		t.Errorf("%d shares are read", read)
	}
	for _, share := range []string{
		"", " ", ".", "0", "1", "0.", ".504", "0.0", "0.000", "-0.000", "00.504", "+0.504", "-0.504", "0.504 ", " 0.504", "0.5040", "0.50", "0.5", "0,504", "0504", "504", "64", "1.0", "1.00", "1.0000", "01.000", "1.001", "1.008", "2.000", "10.000",
		"0.50a", "0.0x8", "0x.504", "5e-1", "0.503", "0.505", "0._08", "NaN", "open", "away", "\xd9\xa0.504", strings.Repeat("0", 56) + ".504", "0.504" + strings.Repeat("0", 55),
	} {
		check(share)
	}
	for at := range len("0.504") {
		for b := range 128 {
			if impl.IsChar(int64(b)) {
				check("0.504"[:at] + string([]byte{byte(b)}) + "0.504"[at+1:])
				check("0.504"[:at] + string([]byte{byte(b)}) + "0.504"[at:])
			}
		}
		check("0.504"[:at] + "0.504"[at+1:])
	}
}

// The fault of a tree is told, whatever the tree would tell.
func TestPresenceOfPidfOfNoTrees(t *testing.T) {
	for _, x := range noTrees {
		checkNoPresenceOfPidf(t, x.name, x.value, x.code)
	}
	pidf := impl.PidfOf(impl.Presence{From: "a@b", Show: 1, Priority: 64, Status: "s"}).Items
	turn := func(name string, at int, code int64, how func(x *impl.Item)) {
		t.Helper()
		items := copyOf(pidf)
		how(&items[at])
		checkNoPresenceOfPidf(t, name, items, code)
	}
	turn("a note of 61 bytes", 10, impl.ErrMany, func(x *impl.Item) { x.Text = strings.Repeat("s", 61) })
	turn("a note with a byte 0", 10, impl.ErrText, func(x *impl.Item) { x.Text = "\x00" })
	turn("an item with nothing in the note", 10, impl.ErrForm, func(x *impl.Item) { x.Text = "" })
	turn("a text with a Space", 10, impl.ErrForm, func(x *impl.Item) { x.Space = impl.PidfSpace })
	turn("an element with a Text", 9, impl.ErrForm, func(x *impl.Item) { x.Text = "s" })
	turn("an entity of 61 bytes", 0, impl.ErrMany, func(x *impl.Item) { x.Attrs[0].Value = "pres:" + strings.Repeat("a", 56) })
	turn("an entity with a byte 0", 0, impl.ErrText, func(x *impl.Item) { x.Attrs[0].Value = "pres:\x00" })
	turn("an entity twice", 0, impl.ErrTaken, func(x *impl.Item) { x.Attrs = append(x.Attrs, x.Attrs[0]) })
	turn("six Attrs", 0, impl.ErrMany, func(x *impl.Item) { x.Attrs = slices.Repeat(x.Attrs, 6) })
	turn("a share of 61 bytes", 7, impl.ErrMany, func(x *impl.Item) { x.Attrs[0].Value = "0.504" + strings.Repeat("0", 56) })
	turn("a share with half a point", 7, impl.ErrText, func(x *impl.Item) { x.Attrs[0].Value = "0.504\xe2" })
	turn("the Depth 7", 10, impl.ErrRange, func(x *impl.Item) { x.Depth = 7 })
	turn("the Depth -1", 4, impl.ErrRange, func(x *impl.Item) { x.Depth = -1 })
	turn("deeper by 2", 9, impl.ErrForm, func(x *impl.Item) { x.Depth = 5 })
	turn("a name that is none", 5, impl.ErrText, func(x *impl.Item) { x.Name = "r:activities" })
	turn("a Space of 61 bytes", 5, impl.ErrMany, func(x *impl.Item) { x.Space = strings.Repeat("u", 61) })
	checkNoPresenceOfPidf(t, "41 items", append(copyOf(pidf), slices.Repeat([]impl.Item{{Depth: 1, Name: "x"}}, 30)...), impl.ErrMany)
	checkNoPresenceOfPidf(t, "two texts in the note", append(copyOf(pidf), impl.Item{Depth: 3, Text: "s"}), impl.ErrForm)
	checkNoPresenceOfPidf(t, "40 items", append(copyOf(pidf), slices.Repeat([]impl.Item{{Depth: 1, Name: "x"}}, 29)...), impl.ErrForm)
	checkNoPresenceOfPidf(t, "all but the first", pidf[1:], impl.ErrForm)
}

// turnedForOthers are others that may stand in the place of an item.
func turnedForOthers(x impl.Item) []impl.Item {
	list := turnedItems(x)
	add := func(how func(y *impl.Item)) {
		y := x
		y.Attrs = slices.Clone(x.Attrs)
		how(&y)
		list = append(list, y)
	}
	for _, name := range []string{"", "presence", "tuple", "status", "basic", "activities", "away", "busy", "contact", "note", "x", "Note"} {
		add(func(y *impl.Item) { y.Name = name })
	}
	for _, space := range []string{"", impl.PidfSpace, impl.RpidSpace, impl.ClientSpace, "u", impl.PidfSpace + " "} {
		add(func(y *impl.Item) { y.Space = space })
	}
	for _, text := range []string{"", "open", "closed", "xmpp:a", "xmpp:" + x.Text, x.Text + " ", "s", "0.504"} {
		add(func(y *impl.Item) { y.Text = text })
	}
	for _, attrs := range [][]impl.Attr{nil, attrsOf("entity", "pres:b"), attrsOf("entity", "b"), attrsOf("entity", ""), attrsOf("id", "t"), attrsOf("id", "u"), attrsOf("priority", "0.008"), attrsOf("priority", "0.000"), attrsOf("priority", "0.009"), attrsOf("entity", "pres:b", "id", "t")} {
		add(func(y *impl.Item) { y.Attrs = attrs })
	}
	for i := range x.Attrs {
		for _, value := range []string{"", x.Attrs[i].Value + "0", "x" + x.Attrs[i].Value, "pres:" + x.Attrs[i].Value, strings.ToUpper(x.Attrs[i].Value)} {
			add(func(y *impl.Item) { y.Attrs[i].Value = value })
		}
		add(func(y *impl.Item) { y.Attrs[i].Name = "a" })
		add(func(y *impl.Item) { y.Attrs = append(y.Attrs, impl.Attr{Name: "z"}) })
		add(func(y *impl.Item) { y.Attrs = append(attrsOf("a", ""), y.Attrs...) })
	}
	return list
}

// An item is taken out, told twice, put elsewhere or turned.
func TestPidfsWithOneItemTurned(t *testing.T) {
	from := rand.New(rand.NewSource(9))
	trees := [][]impl.Item{}
	for _, x := range projectionsToKnow {
		trees = append(trees, impl.PidfOf(x.presence).Items)
	}
	for range 60 {
		trees = append(trees, impl.PidfOf(somePresenceForOthers(from)).Items)
	}
	for _, items := range trees {
		for at := range items {
			checkPresenceOfPidf(t, slices.Delete(slices.Clone(items), at, at+1))
			checkPresenceOfPidf(t, items[:at])
			checkPresenceOfPidf(t, items[at:])
			for other := range items {
				checkPresenceOfPidf(t, slices.Insert(slices.Clone(items), other, items[at]))
				swapped := slices.Clone(items)
				swapped[at], swapped[other] = swapped[other], swapped[at]
				checkPresenceOfPidf(t, swapped)
			}
			for _, x := range turnedForOthers(items[at]) {
				turned := slices.Clone(items)
				turned[at] = x
				checkPresenceOfPidf(t, turned)
				checkPresenceOfPidf(t, slices.Insert(slices.Clone(items), at, x))
				checkPresenceOfPidf(t, slices.Insert(slices.Clone(items), at+1, x))
			}
		}
		checkPresenceOfPidf(t, slices.Concat(items, items))
	}
}

// piecesOfTuples are what may stand in a tuple, alone or beside others.
var piecesOfTuples = []string{
	openMark, closedMark, "<status/>", awayMark, busyMark, withoutEnds(withActivities("<away/><busy/>")), withoutEnds(withActivities("")),
	contactMark, "<contact priority='0.000'>xmpp:a@b</contact>", "<contact priority='0.505'>xmpp:a@b</contact>", "<contact priority='1.000'>xmpp:a@b</contact>", "<contact priority='0.504'>xmpp:b</contact>",
	noteMark, "<note/>", "text", "<x/>",
}

// withoutEnds is what stands behind the status in a tuple.
func withoutEnds(marks string) string {
	_, inside, _ := strings.Cut(marks, "</status>")
	inside, _, _ = strings.Cut(inside, "</tuple>")
	return inside
}

func TestPiecesOfTuples(t *testing.T) {
	read := 0
	check := func(marks string) {
		if parsed := impl.ParseXml(marks); parsed.Code == impl.OK && checkPresenceOfPidf(t, parsed.Items).Code == impl.OK {
			read++
		}
	}
	eachRow(piecesOfTuples, 3, func(inside string) {
		check(pidfWith(inside))
		check(pidfWith(openMark + inside))
		check(pidfWith(closedMark + inside))
	})
	eachRow(piecesOfTuples, 2, func(inside string) {
		check(pidfWith(openMark + awayMark + contactMark + inside))
		check(pidfWith(inside + openMark + awayMark + contactMark + noteMark))
		check(strings.Replace(pidfWith(openMark), "</presence>", inside+"</presence>", 1))
		check(strings.Replace(pidfWith(openMark), "<tuple", inside+"<tuple", 1))
		check(strings.Replace(pidfWith(openMark+noteMark), "</note>", inside+"</note>", 1))
		check(strings.Replace(pidfWith(openMark), "</status>", inside+"</status>", 1))
	})
	if read < 30 {
		t.Errorf("only %d of the trees are read", read)
	}
}

// The parts stand in one order only.
func TestPartsOfATupleInOneOrder(t *testing.T) {
	parts := []string{openMark, awayMark, contactMark, noteMark}
	var order func(chosen string, left []string, rises bool)
	order = func(chosen string, left []string, rises bool) {
		if len(left) == 0 {
			if got := checkPresenceOfPidf(t, markedItems(t, pidfWith(chosen))); rises != (got.Code == impl.OK) {
				t.Errorf("%s: %+v", chosen, got)
			}
		}
		for i, part := range left {
			order(chosen+part, slices.Delete(slices.Clone(left), i, i+1), rises && i == 0)
		}
	}
	order("", parts, true)
}

func TestAnswersOfChapter8AreNewMemory(t *testing.T) {
	var trees [][]impl.Item
	for _, x := range projectionsToKnow {
		p, items := x.presence, markedItems(t, x.marks)
		p.More = copyOf(p.More)
		tree := impl.PidfOf(p).Items
		fillItems(tree, "?")
		for _, more := range [][]impl.Item{impl.ProjectionOf(p).Presence.More, impl.PresenceOfPidf(items).Presence.More} {
			fillItems(more, "?")
			trees = append(trees, more)
		}
		trees = append(trees, tree)
		if !asOne(p, x.presence) || !sameLists(items, markedItems(t, x.marks)) {
			t.Errorf("%s: what is written into an answer shows in its argument", x.name)
		}
		checkPidf(t, p)
		checkPresenceOfPidf(t, items)
		if got := impl.PidfOf(p); impl.PrintXml(got.Items).Text != x.marks {
			t.Errorf("%s: what is written into an answer shows in another one: %+v", x.name, got)
		}
	}
	checkOverwritten(t, trees)
}

// Answers stay as they are when what they were told of turns, and when others
// are asked for.
func TestAnswersOfChapter8DoNotTurnWithArguments(t *testing.T) {
	for _, x := range projectionsToKnow {
		p, items := x.presence, markedItems(t, x.marks)
		p.More = copyOf(p.More)
		tree, projected, read := impl.PidfOf(p), impl.ProjectionOf(p), impl.PresenceOfPidf(items)
		fillItems(p.More, "?")
		fillItems(items, "?")
		for _, y := range projectionsToKnow {
			impl.PidfOf(y.presence)
			impl.PresenceOfPidf(markedItems(t, y.marks))
		}
		if !sameLists(tree.Items, markedItems(t, x.marks)) || !asOne(projected.Presence, x.projected) || !asOne(read.Presence, x.projected) {
			t.Errorf("%s: an answer turns with its argument", x.name)
		}
	}
}

// What is written into the Attrs of one item, or behind their end, is in no
// others, and in no other answer.
func TestListsOfAPidfShareNothing(t *testing.T) {
	p := impl.Presence{From: "a@b", Show: 3, Status: "s", Priority: 64}
	wanted := markedItems(t, pidfWith(openMark+busyMark+contactMark+noteMark))
	tree, again := impl.PidfOf(p), impl.PidfOf(p)
	checkApart(t, "PidfOf", tree.Items, wanted)
	if !sameLists(again.Items, wanted) || !sameLists(impl.PidfOf(p).Items, wanted) {
		t.Error("two answers share memory")
	}
}

func TestChapter8ChangesNoArgument(t *testing.T) {
	var all [][]impl.Item
	for _, x := range slices.Concat(moresToKnow, noMores, noTrees) {
		all = append(all, withRoom(x.value[:min(len(x.value), 60)]))
	}
	for _, x := range projectionsToKnow {
		all = append(all, withRoom(markedItems(t, x.marks)), withRoom(x.presence.More))
	}
	for _, x := range otherMarks {
		all = append(all, withRoom(markedItems(t, x.marks)))
	}
	for _, x := range otherTuples {
		all = append(all, withRoom(markedItems(t, pidfWith(x.inside))))
	}
	for _, items := range all {
		before := allOf(items)
		for _, p := range []impl.Presence{{From: "a", Show: 4, Priority: -1, More: items}, {Kind: 1, From: "a", Status: "x", More: items}, {Kind: 6, More: items}} {
			impl.ProjectionOf(p)
			impl.PidfOf(p)
		}
		impl.PresenceOfPidf(items)
		if !sameLists(allOf(items), before) {
			t.Errorf("%+v has been changed", items)
		}
	}
}

// A tree that could not be read, wherever its reading ended, changes nothing of
// what the next one says; nor does one that was read.
func TestNothingIsKeptFromPidfToPidf(t *testing.T) {
	var others [][]impl.Item
	for _, x := range otherMarks {
		others = append(others, markedItems(t, x.marks))
	}
	for _, x := range otherTuples {
		others = append(others, markedItems(t, pidfWith(x.inside)))
	}
	for _, x := range projectionsToKnow {
		items := markedItems(t, x.marks)
		for _, other := range others {
			if got := impl.PresenceOfPidf(other); got.Code != impl.ErrForm || !asOne(got.Presence, impl.Presence{}) {
				t.Errorf("PresenceOfPidf(%+v) = %+v behind %s", other, got, x.name)
			}
			if got := impl.PresenceOfPidf(items); got.Code != impl.OK || !asOne(got.Presence, x.projected) {
				t.Errorf("%s behind %+v: %+v", x.name, other, got)
			}
		}
		for _, other := range projectionsToKnow {
			impl.PidfOf(other.presence)
			impl.PresenceOfPidf(markedItems(t, other.marks))
			checkPidf(t, x.presence)
		}
		for _, other := range noProjections {
			impl.PidfOf(other.value)
			checkPidf(t, x.presence)
		}
	}
}

func TestAnswersOfChapter8HangOnArgumentsAlone(t *testing.T) {
	var trees [][]impl.Item
	for _, x := range projectionsToKnow {
		trees = append(trees, markedItems(t, x.marks))
	}
	var all sync.WaitGroup
	for range 8 {
		all.Go(func() {
			for i := range 200 {
				x, items := projectionsToKnow[i%len(projectionsToKnow)], trees[i%len(trees)]
				if impl.PresenceOfPidf(nil).Code != impl.ErrMany || impl.PresenceOfPidf(rowOf(3)).Code != impl.ErrForm || impl.PidfOf(impl.Presence{}).Code != impl.ErrState || impl.ProjectionOf(impl.Presence{Kind: 7}).Code != impl.ErrRange || impl.ThousandthsOf(128).Code != impl.ErrRange || impl.PriorityOf(-1).Code != impl.ErrRange || impl.ShareText(1001).Code != impl.ErrRange {
					t.Error("a fault is told otherwise at a later call")
				}
				if !asOne(impl.PresenceOfPidf(items).Presence, x.projected) || !sameLists(impl.PidfOf(x.presence).Items, items) || !asOne(impl.ProjectionOf(x.presence).Presence, x.projected) || impl.ThousandthsOf(64).Value != 504 || impl.PriorityOf(504).Value != 64 || impl.ShareText(7).Text != "0.007" {
					t.Error("an answer is another one at a later call")
				}
			}
		})
	}
	all.Wait()
}

func FuzzNumbersOfShares(f *testing.F) {
	for _, n := range append([]int64{-1, 0, 1, 64, 127, 128, 500, 504, 1000, 1001}, numbersFarOut...) {
		f.Add(n)
	}
	f.Fuzz(checkNumbersOfShares)
}

func FuzzPresenceOfPidf(f *testing.F) {
	for _, x := range projectionsToKnow {
		f.Add(x.marks)
	}
	for _, x := range otherMarks {
		f.Add(x.marks)
	}
	for _, x := range otherTuples {
		f.Add(pidfWith(x.inside))
	}
	for _, inside := range otherActivities {
		f.Add(withActivities(inside))
	}
	f.Fuzz(func(t *testing.T, marks string) {
		checkPresenceOfPidf(t, impl.ParseXml(marks).Items)
	})
}

func FuzzPidfOf(f *testing.F) {
	f.Add(int64(0), "a", "b", int64(4), "s", int64(-5), []byte("\x01\x00\x00\x02\x00\x00\x01\x00\x00"))
	f.Add(int64(1), "a", "", int64(0), "s", int64(0), []byte("\x01\x00\x00\x82\x00\x00\x02\x00\x00"))
	f.Add(int64(6), "a", "b", int64(0), "", int64(0), []byte("\x01\x00\xfa\x02\x00\xfb\x83\xf1\x00"))
	f.Add(int64(0), strings.Repeat("a", 56), "b", int64(3), "", int64(127), []byte{})
	f.Fuzz(func(t *testing.T, kind int64, from, to string, show int64, status string, priority int64, data []byte) {
		p := impl.Presence{Kind: kind, From: from, To: to, Show: show, Status: status, Priority: priority, More: itemsIn(data)}
		checkPidf(t, p)
		checkPresenceOfPidf(t, p.More)
	})
}
