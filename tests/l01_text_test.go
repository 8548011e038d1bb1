package tests

import (
	"bytes"
	"math"
	"slices"
	"strings"
	"sync"
	"testing"

	"loop.example/g00795/impl"
)

// rangeEnds are the points at the ends of each range, and the numbers beside
// them that are none.
var rangeEnds = []struct {
	point int64
	form  []byte
}{
	{math.MinInt64, nil},
	{-1 << 32, nil},
	{-1, nil},
	{0, []byte{0}},
	{1, []byte{1}},
	{127, []byte{127}},
	{128, []byte{194, 128}},
	{233, []byte{195, 169}},
	{2047, []byte{223, 191}},
	{2048, []byte{224, 160, 128}},
	{8364, []byte{226, 130, 172}},
	{55295, []byte{237, 159, 191}},
	{55296, nil},
	{56320, nil},
	{57343, nil},
	{57344, []byte{238, 128, 128}},
	{65533, []byte{239, 191, 189}},
	{65534, []byte{239, 191, 190}},
	{65535, []byte{239, 191, 191}},
	{65536, []byte{240, 144, 128, 128}},
	{128512, []byte{240, 159, 152, 128}},
	{1114111, []byte{244, 143, 191, 191}},
	{1114112, nil},
	{2097151, nil},
	{1 << 32, nil},
	{1<<32 + 65, nil},
	{math.MaxInt64, nil},
}

// noPoint are bytes among which there are some that are no point's.
var noPoint = map[string]string{
	"a byte that only goes on":          "\x80",
	"the last byte that only goes on":   "\xbf",
	"0 in two bytes":                    "\xc0\x80",
	"127 in two bytes":                  "\xc1\xbf",
	"0 in three bytes":                  "\xe0\x80\x80",
	"233 in three bytes":                "\xe0\x83\xa9",
	"2047 in three bytes":               "\xe0\x9f\xbf",
	"0 in four bytes":                   "\xf0\x80\x80\x80",
	"8364 in four bytes":                "\xf0\x82\x82\xac",
	"65535 in four bytes":               "\xf0\x8f\xbf\xbf",
	"0 in five bytes":                   "\xf8\x80\x80\x80\x80",
	"0 in six bytes":                    "\xfc\x80\x80\x80\x80\x80",
	"55296":                             "\xed\xa0\x80",
	"57343":                             "\xed\xbf\xbf",
	"65536 as two halves":               "\xed\xa0\x80\xed\xb0\x80",
	"1114112":                           "\xf4\x90\x80\x80",
	"2097151":                           "\xf7\xbf\xbf\xbf",
	"254":                               "\xfe",
	"255":                               "\xff",
	"half of two bytes":                 "\xc3",
	"one of three bytes":                "\xe2",
	"two of three bytes":                "\xe2\x82",
	"one of four bytes":                 "\xf0",
	"two of four bytes":                 "\xf0\x9f",
	"three of four bytes":               "\xf0\x9f\x98",
	"three bytes, the second a letter":  "\xe2a\xac",
	"three bytes, the third a letter":   "\xe2\x82a",
	"a point within another":            "\xe2\x82\xc3\xa9",
	"one byte that goes on too many":    "\xc3\xa9\xa9",
	"the form of another code (UTF-16)": "\xff\xfea\x00",
}

// formOf is the chapter's own arithmetic for PutPoint.
func formOf(point int64) string {
	switch {
	case point < 128:
		return string([]byte{byte(point)})
	case point < 2048:
		return string([]byte{byte(192 + point/64), byte(128 + point%64)})
	case point < 65536:
		return string([]byte{byte(224 + point/4096), byte(128 + point%4096/64), byte(128 + point%64)})
	}
	return string([]byte{byte(240 + point/262144), byte(128 + point%262144/4096), byte(128 + point%4096/64), byte(128 + point%64)})
}

func isPoint(point int64) bool {
	return point >= 0 && point <= 1114111 && (point < 55296 || point > 57343)
}

// formsOfAll is every point by its form.
var formsOfAll = sync.OnceValue(func() map[string]int64 {
	all := make(map[string]int64, 1112064)
	for point := int64(0); point <= 1114111; point++ {
		if isPoint(point) {
			all[formOf(point)] = point
		}
	}
	return all
})

// pointsByForms takes text apart by looking for the form of each point in it.
func pointsByForms(text string) ([]int64, bool) {
	forms := formsOfAll()
	var points []int64
	for len(text) > 0 {
		size := 1
		for ; size <= min(4, len(text)); size++ {
			if point, ok := forms[text[:size]]; ok {
				points = append(points, point)
				break
			}
		}
		if size > min(4, len(text)) {
			return nil, false
		}
		text = text[size:]
	}
	return points, true
}

func checkPoints(t *testing.T, text string) {
	t.Helper()
	want, ok := pointsByForms(text)
	got := impl.PointsOf(text)
	if ok && (got.Code != impl.OK || !slices.Equal(got.Points, want)) {
		t.Errorf("PointsOf(%q) = %v, want the points %v", text, got, want)
	}
	if !ok && (got.Code != impl.ErrText || len(got.Points) != 0) {
		t.Errorf("PointsOf(%q) = %v, want ErrText and no points", text, got)
	}
}

func TestPutPointAtTheEndsOfRanges(t *testing.T) {
	for _, x := range rangeEnds {
		got := impl.PutPoint(x.point)
		if x.form == nil && (got.Code != impl.ErrRange || len(got.Bytes) != 0) {
			t.Errorf("PutPoint(%d) = %v, want ErrRange and no bytes", x.point, got)
		}
		if x.form != nil && (got.Code != impl.OK || !bytes.Equal(got.Bytes, x.form)) {
			t.Errorf("PutPoint(%d) = %v, want %v", x.point, got, x.form)
		}
	}
}

func TestEveryPointIsReadBackFromItsBytes(t *testing.T) {
	for point := int64(-300); point <= 1114111+300; point++ {
		got := impl.PutPoint(point)
		if !isPoint(point) {
			if got.Code != impl.ErrRange || len(got.Bytes) != 0 {
				t.Fatalf("PutPoint(%d) = %v, want ErrRange", point, got)
			}
			continue
		}
		if got.Code != impl.OK || string(got.Bytes) != formOf(point) {
			t.Fatalf("PutPoint(%d) = %v", point, got)
		}
		back := impl.PointsOf(string(got.Bytes))
		if back.Code != impl.OK || len(back.Points) != 1 || back.Points[0] != point {
			t.Fatalf("PointsOf the PutPoint of %d = %v", point, back)
		}
	}
}

func TestPointsOfOrdinaryTexts(t *testing.T) {
	for text, want := range map[string][]int64{
		"":                                      nil,
		"a":                                     {97},
		"\x00":                                  {0},
		"a\xe2\x82\xac":                         {97, 8364},
		"\xc3\xa9\xe2\x82\xac\xf0\x9f\x98\x80z": {233, 8364, 128512, 122},
		"\xef\xbf\xbd":                          {65533},
		"\xef\xbf\xbe\xef\xbf\xbf\x7f":          {65534, 65535, 127},
		"\xef\xbb\xbfa":                         {65279, 97},
		"e\xcc\x81":                             {101, 769},
	} {
		got := impl.PointsOf(text)
		if got.Code != impl.OK || !slices.Equal(got.Points, want) {
			t.Errorf("PointsOf(%q) = %v, want %v", text, got, want)
		}
	}
}

func TestBytesThatAreNoPoints(t *testing.T) {
	for name, text := range noPoint {
		for _, whole := range []string{text, text + "a", "a" + text, "\xe2\x82\xac" + text, text + "\xe2\x82\xac", "\xef\xbf\xbd" + text} {
			if got := impl.PointsOf(whole); got.Code != impl.ErrText || len(got.Points) != 0 {
				t.Errorf("%s: PointsOf(%q) = %v, want ErrText and no points", name, whole, got)
			}
			if got := impl.TextFault(whole); got != impl.ErrText {
				t.Errorf("%s: TextFault(%q) = %d, want ErrText", name, whole, got)
			}
			if impl.IsName(whole) {
				t.Errorf("%s: IsName(%q)", name, whole)
			}
		}
	}
}

func TestEachPointHasOneForm(t *testing.T) {
	for first := range 256 {
		checkPoints(t, string([]byte{byte(first)}))
		for second := range 256 {
			checkPoints(t, string([]byte{byte(first), byte(second)}))
		}
	}
	ends := []byte{0, 65, 127, 128, 129, 143, 144, 159, 160, 190, 191, 192, 224, 255}
	for first := 192; first < 256; first++ {
		for second := range 256 {
			for _, third := range ends {
				checkPoints(t, string([]byte{byte(first), byte(second), third}))
				for _, fourth := range ends {
					checkPoints(t, string([]byte{byte(first), byte(second), third, fourth}))
				}
			}
		}
	}
}

func TestHalfAPointAtTheEnd(t *testing.T) {
	for _, x := range rangeEnds {
		for size := 1; size < len(x.form); size++ {
			for _, ahead := range []string{"", "a", "\xf0\x9f\x98\x80"} {
				text := ahead + string(x.form[:size])
				if got := impl.PointsOf(text); got.Code != impl.ErrText || len(got.Points) != 0 {
					t.Errorf("PointsOf(%q) = %v, want ErrText", text, got)
				}
				if got := impl.TextFault(text); got != impl.ErrText {
					t.Errorf("TextFault(%q) = %d, want ErrText", text, got)
				}
			}
		}
	}
}

func TestPointsOfLongTexts(t *testing.T) {
	for _, x := range []struct {
		name  string
		text  string
		code  int64
		count int
	}{
		{"4000 bytes", strings.Repeat("a", 4000), impl.OK, 4000},
		{"4001 bytes", strings.Repeat("a", 4001), impl.ErrMany, 0},
		{"1000 points of four bytes", strings.Repeat("\xf0\x9f\x98\x80", 1000), impl.OK, 1000},
		{"1333 points of three bytes and one of one", strings.Repeat("\xe2\x82\xac", 1333) + "a", impl.OK, 1334},
		{"1334 points of three bytes", strings.Repeat("\xe2\x82\xac", 1334), impl.ErrMany, 0},
		{"4000 bytes, the last one half a point", strings.Repeat("a", 3999) + "\xc3", impl.ErrText, 0},
		{"a point that ends behind 4000 bytes", strings.Repeat("a", 3999) + "\xc3\xa9", impl.ErrMany, 0},
		{"4001 bytes that are no point's", strings.Repeat("\x80", 4001), impl.ErrMany, 0},
		{"very many bytes", strings.Repeat("a", 1<<20), impl.ErrMany, 0},
	} {
		got := impl.PointsOf(x.text)
		if got.Code != x.code || len(got.Points) != x.count {
			t.Errorf("%s: code %d, %d points", x.name, got.Code, len(got.Points))
		}
	}
}

func TestIsChar(t *testing.T) {
	for point := int64(-300); point <= 1114111+300; point++ {
		want := point == 9 || point == 10 || isPoint(point) && point >= 32 && point != 127 && point != 65534 && point != 65535
		if impl.IsChar(point) != want {
			t.Errorf("IsChar(%d) is %v", point, !want)
		}
	}
	for point, want := range map[int64]bool{
		9: true, 10: true, 32: true, 126: true, 128: true, 55295: true, 57344: true, 65533: true, 65536: true, 1114111: true,
		0: false, 8: false, 11: false, 13: false, 31: false, 127: false, 55296: false, 57343: false, 65534: false, 65535: false, 1114112: false,
		math.MinInt64: false, math.MaxInt64: false, 1<<32 + 65: false, -1<<32 + 65: false,
	} {
		if impl.IsChar(point) != want {
			t.Errorf("IsChar(%d) is %v", point, !want)
		}
	}
}

func TestTextFaultOfEachPoint(t *testing.T) {
	for point := int64(0); point <= 1114111; point++ {
		if !isPoint(point) {
			continue
		}
		want := int64(impl.ErrText)
		if point == 9 || point == 10 || point >= 32 && point != 127 && point != 65534 && point != 65535 {
			want = impl.OK
		}
		form := formOf(point)
		for _, text := range []string{form, "ab" + form, form + "ab"} {
			if got := impl.TextFault(text); got != want {
				t.Fatalf("TextFault(%q) = %d, want %d", text, got, want)
			}
		}
	}
}

func TestTextFaultOfLongTexts(t *testing.T) {
	for _, x := range []struct {
		name string
		text string
		want int64
	}{
		{"no bytes", "", impl.OK},
		{"a sign that is written otherwise", "<&>\"'\t\n ", impl.OK},
		{"60 bytes", strings.Repeat("a", 60), impl.OK},
		{"61 bytes", strings.Repeat("a", 61), impl.ErrMany},
		{"60 bytes in points of two", strings.Repeat("\xc3\xa9", 30), impl.OK},
		{"62 bytes in points of two", strings.Repeat("\xc3\xa9", 31), impl.ErrMany},
		{"60 bytes in points of three", strings.Repeat("\xe2\x82\xac", 20), impl.OK},
		{"60 bytes in points of four", strings.Repeat("\xf0\x9f\x98\x80", 15), impl.OK},
		{"a point that ends behind 60 bytes", strings.Repeat("a", 59) + "\xc3\xa9", impl.ErrMany},
		{"60 bytes, the last one half a point", strings.Repeat("a", 59) + "\xc3", impl.ErrText},
		{"60 bytes, the last one no sign", strings.Repeat("a", 59) + "\x7f", impl.ErrText},
		{"60 bytes, the first one no sign", "\x00" + strings.Repeat("a", 59), impl.ErrText},
		{"61 bytes that are no signs", strings.Repeat("\x00", 61), impl.ErrMany},
		{"61 bytes that are no point's", strings.Repeat("\x80", 61), impl.ErrMany},
		{"more bytes than PointsOf takes", strings.Repeat("a", 4001), impl.ErrMany},
	} {
		if got := impl.TextFault(x.text); got != x.want {
			t.Errorf("%s: %d, want %d", x.name, got, x.want)
		}
	}
}

func TestIsNameOfEachByte(t *testing.T) {
	const first = "abcdefghijklmnopqrstuvwxyzABCDEFGHIJKLMNOPQRSTUVWXYZ_"
	const behind = first + "0123456789-."
	for b := range 256 {
		sign := string([]byte{byte(b)})
		atFirst, atAll := strings.Contains(first, sign), strings.Contains(behind, sign)
		for text, want := range map[string]bool{sign: atFirst, sign + "a": atFirst, "a" + sign: atAll, "a" + sign + "b": atAll, strings.Repeat("a", 19) + sign: atAll} {
			if impl.IsName(text) != want {
				t.Errorf("IsName(%q) is %v", text, !want)
			}
		}
	}
}

func TestIsNameOfWholeTexts(t *testing.T) {
	for text, want := range map[string]bool{
		"a":                            true,
		"_":                            true,
		"a-b.c":                        true,
		"Z9":                           true,
		"_-.0":                         true,
		"xmlns":                        true,
		strings.Repeat("a", 20):        true,
		"a" + strings.Repeat("-", 19):  true,
		"":                             false,
		"1a":                           false,
		"-a":                           false,
		".a":                           false,
		"a:b":                          false,
		"a b":                          false,
		"a ":                           false,
		" a":                           false,
		"a\n":                          false,
		"a\x00":                        false,
		"a/b":                          false,
		"caf\xc3\xa9":                  false,
		"\xc3\xa9":                     false,
		strings.Repeat("a", 21):        false,
		strings.Repeat("a", 1<<20):     false,
		strings.Repeat("\xc3\xa9", 10): false,
	} {
		if impl.IsName(text) != want {
			t.Errorf("IsName(%.30q) is %v", text, !want)
		}
	}
}

// An answer is overwritten to the end of its memory and kept, while others are
// asked for: neither may show in the other.
func TestAnswersOfChapter1AreNewMemory(t *testing.T) {
	var kept [][]byte
	for _, x := range rangeEnds {
		put := impl.PutPoint(x.point).Bytes
		if !bytes.Equal(put, x.form) {
			t.Errorf("PutPoint(%d) = %v", x.point, put)
		}
		fill(put, 255)
		if again := impl.PutPoint(x.point); !bytes.Equal(again.Bytes, x.form) {
			t.Errorf("PutPoint(%d) = %v at the second call", x.point, again)
		}
		kept = append(kept, put)
	}
	checkFilled(t, kept, 255)
	var lists [][]int64
	for _, x := range rangeEnds {
		text := "a" + string(x.form)
		points := impl.PointsOf(text).Points
		want := slices.Clone(points)
		fill(points, -1)
		if again := impl.PointsOf(text); !slices.Equal(again.Points, want) {
			t.Errorf("PointsOf(%q) = %v at the second call", text, again)
		}
		lists = append(lists, points)
	}
	checkFilled(t, lists, -1)
}

func fill[T any](list []T, with T) {
	whole := list[:cap(list)]
	for i := range whole {
		whole[i] = with
	}
}

func checkFilled[T comparable](t *testing.T, lists [][]T, with T) {
	t.Helper()
	for _, list := range lists {
		for _, x := range list[:cap(list)] {
			if x != with {
				t.Errorf("a later call wrote %v into an answer", x)
			}
		}
	}
}

// A fault ahead of a call must not show in the call behind it, nor must calls
// that run at the same time show in one another.
func TestAnswersOfChapter1HangOnArgumentsAlone(t *testing.T) {
	var all sync.WaitGroup
	for range 8 {
		all.Go(func() {
			for range 200 {
				if impl.PointsOf("\xe2\x82").Code != impl.ErrText || impl.TextFault("\x00") != impl.ErrText || impl.PutPoint(55296).Code != impl.ErrRange || impl.IsChar(127) || impl.IsName("1") {
					t.Error("a fault is told otherwise at a later call")
				}
				if !slices.Equal(impl.PointsOf("\xe2\x82\xac").Points, []int64{8364}) || impl.TextFault("a") != impl.OK || string(impl.PutPoint(8364).Bytes) != "\xe2\x82\xac" || !impl.IsChar(97) || !impl.IsName("a") {
					t.Error("an answer is another one at a later call")
				}
			}
		})
	}
	all.Wait()
}

func FuzzPointsOf(f *testing.F) {
	for _, text := range noPoint {
		f.Add(text)
	}
	for _, x := range rangeEnds {
		f.Add("a" + string(x.form))
	}
	f.Fuzz(func(t *testing.T, text string) {
		if len(text) <= 4000 {
			checkPoints(t, text)
		}
	})
}
