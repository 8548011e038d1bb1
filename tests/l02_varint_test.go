package tests

import (
	"bytes"
	"encoding/binary"
	"math"
	"slices"
	"strings"
	"sync"
	"testing"

	"loop.example/g00795/impl"
)

// varEnds are the numbers at the ends of each number of bytes.
var varEnds = []struct {
	n    int64
	form []byte
}{
	{0, []byte{0}},
	{1, []byte{1}},
	{127, []byte{127}},
	{128, []byte{128, 1}},
	{129, []byte{129, 1}},
	{255, []byte{255, 1}},
	{256, []byte{128, 2}},
	{300, []byte{172, 2}},
	{16383, []byte{255, 127}},
	{16384, []byte{128, 128, 1}},
	{2097151, []byte{255, 255, 127}},
	{2097152, []byte{128, 128, 128, 1}},
	{268435455, []byte{255, 255, 255, 127}},
	{268435456, []byte{128, 128, 128, 128, 1}},
	{4294967295, []byte{255, 255, 255, 255, 15}},
	{4294967296, []byte{128, 128, 128, 128, 16}},
	{34359738367, []byte{255, 255, 255, 255, 127}},
	{34359738368, []byte{128, 128, 128, 128, 128, 1}},
	{4398046511103, []byte{255, 255, 255, 255, 255, 127}},
	{4398046511104, []byte{128, 128, 128, 128, 128, 128, 1}},
	{562949953421311, []byte{255, 255, 255, 255, 255, 255, 127}},
	{562949953421312, []byte{128, 128, 128, 128, 128, 128, 128, 1}},
	{72057594037927935, []byte{255, 255, 255, 255, 255, 255, 255, 127}},
	{72057594037927936, []byte{128, 128, 128, 128, 128, 128, 128, 128, 1}},
	{impl.MaxVar - 1, []byte{254, 255, 255, 255, 255, 255, 255, 255, 127}},
	{impl.MaxVar, []byte{255, 255, 255, 255, 255, 255, 255, 255, 127}},
}

// noVar are bytes that begin with no number's.
var noVar = map[string][]byte{
	"nil":                            nil,
	"no bytes":                       {},
	"one byte that goes on":          {128},
	"another byte that goes on":      {255},
	"two bytes that go on":           {172, 130},
	"0 with a nought behind":         {128, 0},
	"0 with two noughts behind":      {128, 128, 0},
	"1 with a nought behind":         {129, 0},
	"127 with a nought behind":       {255, 0},
	"128 with a nought behind":       {128, 129, 0},
	"300 with a nought behind":       {172, 130, 0},
	"300 with two noughts behind":    {172, 130, 128, 0},
	"0 in nine bytes":                {128, 128, 128, 128, 128, 128, 128, 128, 0},
	"300 in nine bytes":              {172, 130, 128, 128, 128, 128, 128, 128, 0},
	"a nought behind eight bytes":    {255, 255, 255, 255, 255, 255, 255, 255, 0},
	"0 in ten bytes":                 {128, 128, 128, 128, 128, 128, 128, 128, 128, 0},
	"MaxVar with a nought behind":    {255, 255, 255, 255, 255, 255, 255, 255, 255, 0},
	"MaxVar and 1":                   {128, 128, 128, 128, 128, 128, 128, 128, 128, 1},
	"all of 64 bits":                 {255, 255, 255, 255, 255, 255, 255, 255, 255, 1},
	"65 bits":                        {128, 128, 128, 128, 128, 128, 128, 128, 128, 2},
	"70 bits":                        {255, 255, 255, 255, 255, 255, 255, 255, 255, 127},
	"nine bytes that go on":          {255, 255, 255, 255, 255, 255, 255, 255, 255},
	"ten bytes that go on":           {255, 255, 255, 255, 255, 255, 255, 255, 255, 255},
	"eleven bytes":                   {255, 255, 255, 255, 255, 255, 255, 255, 255, 255, 1},
	"many bytes that go on":          bytes.Repeat([]byte{128}, 1<<20),
	"very many bytes and then a one": append(bytes.Repeat([]byte{128}, 1<<20), 1),
}

// stringsThatFit are texts without a fault, up to as many bytes as may be.
var stringsThatFit = []string{
	"",
	"a",
	"hi",
	"<&>\"'\t\n ",
	"\xc3\xa9",
	"a\xe2\x82\xac",
	"\xef\xbf\xbd",
	"\n",
	strings.Repeat("a", 59),
	strings.Repeat("a", 60),
	strings.Repeat("\xc3\xa9", 30),
	strings.Repeat("\xe2\x82\xac", 20),
	strings.Repeat("\xf0\x9f\x98\x80", 15),
	strings.Repeat("a", 58) + "\xc3\xa9",
}

// noString are bytes that begin with no text's.
var noString = map[string][]byte{
	"nil":                          nil,
	"no bytes":                     {},
	"no byte of one":               {1},
	"one byte of two":              {2, 'h'},
	"59 bytes of 60":               append([]byte{60}, strings.Repeat("a", 59)...),
	"61 bytes":                     append([]byte{61}, strings.Repeat("a", 61)...),
	"127 bytes":                    append([]byte{127}, strings.Repeat("a", 127)...),
	"128 bytes":                    append([]byte{128, 1}, strings.Repeat("a", 128)...),
	"300 bytes":                    append([]byte{172, 2}, strings.Repeat("a", 300)...),
	"61 bytes that are not there":  {61, 'a'},
	"no bytes, a nought behind":    {128, 0},
	"one byte, a nought behind":    {129, 0, 'a'},
	"two bytes, a nought behind":   {130, 0, 'h', 'i'},
	"two bytes, two noughts":       {130, 128, 0, 'h', 'i'},
	"a number that goes on":        {130},
	"as many bytes as MaxVar":      {255, 255, 255, 255, 255, 255, 255, 255, 127, 'a'},
	"nearly MaxVar":                {247, 255, 255, 255, 255, 255, 255, 255, 127, 'a'},
	"4294967297 bytes":             {129, 128, 128, 128, 16, 'a'},
	"MaxVar and 2":                 {129, 128, 128, 128, 128, 128, 128, 128, 128, 1, 'a'},
	"all of 64 bits":               {255, 255, 255, 255, 255, 255, 255, 255, 255, 1, 'a'},
	"a sign that is none":          {1, 0},
	"a sign that is none, 31":      {1, 31},
	"a sign that is none, 13":      {3, 'a', 13, 'b'},
	"a sign that is none, 127":     {1, 127},
	"a sign that is none, 65535":   {3, 0xef, 0xbf, 0xbf},
	"bytes that are no point's":    {1, 0x80},
	"55296":                        {3, 0xed, 0xa0, 0x80},
	"a in two bytes":               {2, 0xc1, 0xa1},
	"half a point, the other half": {1, 0xc3, 0xa9},
	"two of three, the third":      {2, 0xe2, 0x82, 0xac},
	"half a point at the end":      {2, 'a', 0xc3, 0xa9},
}

// behind are bytes that may stand behind a number or a text.
var behind = [][]byte{nil, {0}, {1}, {127}, {128}, {255}, {0, 0}, {2, 'h', 'i'}, {172, 2}, bytes.Repeat([]byte{255}, 12), bytes.Repeat([]byte{0}, 100)}

func checkVar(t *testing.T, data []byte) {
	t.Helper()
	want := impl.ReadResult{Code: impl.ErrText}
	n, size := binary.Uvarint(data)
	if size > 0 && n <= math.MaxInt64 && bytes.Equal(binary.AppendUvarint(nil, n), data[:size]) {
		want = impl.ReadResult{Value: int64(n), Size: int64(size)}
	}
	if got := impl.ReadVar(data); got != want {
		t.Errorf("ReadVar(%v) = %v, want %v", data, got, want)
	}
}

// checkString tells the text that data begins with by trying each size.
func checkString(t *testing.T, data []byte) {
	t.Helper()
	want := impl.StringResult{Code: impl.ErrText}
	for size := 1; size <= len(data); size++ {
		text := string(data[1:size])
		if len(text) == int(data[0]) && impl.TextFault(text) == impl.OK {
			want = impl.StringResult{Text: text, Size: int64(size)}
		}
	}
	if got := impl.ReadString(data); got != want {
		t.Errorf("ReadString(%v) = %v, want %v", data, got, want)
	}
}

func TestPutVarAtTheEndsOfEachNumberOfBytes(t *testing.T) {
	for _, x := range varEnds {
		if got := impl.PutVar(x.n); got.Code != impl.OK || !bytes.Equal(got.Bytes, x.form) {
			t.Errorf("PutVar(%d) = %v, want %v", x.n, got, x.form)
		}
	}
}

func TestPutVarBelow0(t *testing.T) {
	for _, n := range []int64{-1, -2, -127, -128, -129, -300, -1 << 32, math.MinInt64 + 1, math.MinInt64} {
		if got := impl.PutVar(n); got.Code != impl.ErrRange || len(got.Bytes) != 0 {
			t.Errorf("PutVar(%d) = %v, want ErrRange and no bytes", n, got)
		}
	}
}

func TestNumbersAreReadBack(t *testing.T) {
	var numbers []int64
	for _, x := range varEnds {
		numbers = append(numbers, x.n)
	}
	for n := range int64(70000) {
		numbers = append(numbers, n)
	}
	for bit := range 63 {
		one := int64(1) << bit
		numbers = append(numbers, one, one-1, one|one>>1, impl.MaxVar-one, impl.MaxVar>>bit)
	}
	for n := int64(1); n < impl.MaxVar/3; n = n*3 + 1 {
		numbers = append(numbers, n)
	}
	for _, n := range numbers {
		put := impl.PutVar(n)
		if put.Code != impl.OK || !bytes.Equal(put.Bytes, binary.AppendUvarint(nil, uint64(n))) {
			t.Fatalf("PutVar(%d) = %v", n, put)
		}
		for _, more := range behind {
			data := slices.Concat(put.Bytes, more)
			want := impl.ReadResult{Value: n, Size: int64(len(put.Bytes))}
			if got := impl.ReadVar(data); got != want {
				t.Fatalf("ReadVar(%v) = %v, want %v", data, got, want)
			}
		}
	}
}

func TestBytesThatAreNoNumber(t *testing.T) {
	for name, data := range noVar {
		if got := impl.ReadVar(data); got != (impl.ReadResult{Code: impl.ErrText}) {
			t.Errorf("%s: ReadVar = %v, want ErrText alone", name, got)
		}
	}
}

func TestNumbersThatEndTooEarly(t *testing.T) {
	for _, x := range varEnds {
		for size := range len(x.form) {
			// The bytes that lack stand behind the slice, where it must not look.
			if got := impl.ReadVar(x.form[:size]); got != (impl.ReadResult{Code: impl.ErrText}) {
				t.Errorf("ReadVar(%v) = %v, want ErrText alone", x.form[:size], got)
			}
		}
	}
}

func TestNumbersWithANoughtBehind(t *testing.T) {
	for _, x := range varEnds {
		longer := slices.Clone(x.form)
		for range 12 {
			longer[len(longer)-1] += 128
			longer = append(longer, 0)
			for _, more := range behind {
				data := slices.Concat(longer, more)
				if got := impl.ReadVar(data); got != (impl.ReadResult{Code: impl.ErrText}) {
					t.Errorf("ReadVar(%v) = %v, want ErrText alone", data, got)
				}
			}
		}
	}
}

func TestEachNumberHasOneForm(t *testing.T) {
	ends := []byte{0, 1, 2, 63, 64, 127, 128, 129, 192, 254, 255}
	for first := range 256 {
		checkVar(t, []byte{byte(first)})
		for second := range 256 {
			checkVar(t, []byte{byte(first), byte(second)})
			for _, third := range ends {
				checkVar(t, []byte{byte(first), byte(second), third})
			}
		}
	}
	for ahead := range 12 {
		for _, filler := range []byte{128, 129, 170, 254, 255} {
			for last := range 256 {
				for _, more := range behind {
					data := append(bytes.Repeat([]byte{filler}, ahead), byte(last))
					checkVar(t, append(data, more...))
				}
			}
		}
	}
}

func TestStringsAreReadBack(t *testing.T) {
	texts := slices.Clone(stringsThatFit)
	for size := range 61 {
		texts = append(texts, strings.Repeat("x", size), strings.Repeat("\t", size))
	}
	for _, text := range texts {
		put := impl.PutString(text)
		if put.Code != impl.OK || string(put.Bytes) != string([]byte{byte(len(text))})+text {
			t.Fatalf("PutString(%q) = %v", text, put)
		}
		for _, more := range behind {
			data := slices.Concat(put.Bytes, more)
			want := impl.StringResult{Text: text, Size: int64(len(text) + 1)}
			if got := impl.ReadString(data); got != want {
				t.Fatalf("ReadString(%v) = %v, want %v", data, got, want)
			}
		}
	}
}

func TestPutStringOfATextWithAFault(t *testing.T) {
	for text, want := range map[string]int64{
		strings.Repeat("a", 61):              impl.ErrMany,
		strings.Repeat("a", 59) + "\xc3\xa9": impl.ErrMany,
		strings.Repeat("\x00", 61):           impl.ErrMany,
		strings.Repeat("a", 128):             impl.ErrMany,
		strings.Repeat("a", 4001):            impl.ErrMany,
		"\x00":                               impl.ErrText,
		"a\x01":                              impl.ErrText,
		"a\rb":                               impl.ErrText,
		"\x7f":                               impl.ErrText,
		"\xef\xbf\xbe":                       impl.ErrText,
		"\xef\xbf\xbf":                       impl.ErrText,
		"\xc3":                               impl.ErrText,
		"\x80":                               impl.ErrText,
		"\xed\xa0\x80":                       impl.ErrText,
		strings.Repeat("a", 59) + "\xc3":     impl.ErrText,
		strings.Repeat("a", 59) + "\x00":     impl.ErrText,
		"\xff" + strings.Repeat("a", impl.MaxText-1): impl.ErrText,
	} {
		if got := impl.PutString(text); got.Code != want || len(got.Bytes) != 0 {
			t.Errorf("PutString(%.70q) = %v, want the code %d and no bytes", text, got, want)
		}
	}
}

func TestBytesThatAreNoString(t *testing.T) {
	for name, data := range noString {
		if got := impl.ReadString(data); got != (impl.StringResult{Code: impl.ErrText}) {
			t.Errorf("%s: ReadString = %v, want ErrText alone", name, got)
		}
	}
	for name, data := range noVar {
		if got := impl.ReadString(data); got != (impl.StringResult{Code: impl.ErrText}) {
			t.Errorf("%s: ReadString = %v, want ErrText alone", name, got)
		}
	}
}

func TestStringsThatEndTooEarly(t *testing.T) {
	for _, text := range stringsThatFit {
		whole := append([]byte{byte(len(text))}, text...)
		for size := range len(whole) {
			// The bytes that lack stand behind the slice, where it must not look.
			if got := impl.ReadString(whole[:size]); got != (impl.StringResult{Code: impl.ErrText}) {
				t.Errorf("ReadString(%v) = %v, want ErrText alone", whole[:size], got)
			}
		}
	}
}

func TestEachStringHasOneForm(t *testing.T) {
	fillers := []string{"a", "\xc3\xa9", "\xe2\x82\xac", "\xf0\x9f\x98\x80", "\x00", "\x80", "a\x7f"}
	for first := range 256 {
		for _, filler := range fillers {
			checkString(t, append([]byte{byte(first)}, strings.Repeat(filler, 70)...))
			checkString(t, append([]byte{byte(first)}, filler...))
		}
		for second := range 256 {
			for _, more := range []string{"", "a", "aa", "\x80", "\xac\xac", strings.Repeat("a", 300)} {
				checkString(t, append([]byte{byte(first), byte(second)}, more...))
			}
		}
	}
}

func TestNumbersAndStringsOneBehindTheOther(t *testing.T) {
	var data []byte
	for _, x := range varEnds {
		data = append(data, impl.PutVar(x.n).Bytes...)
		for _, text := range stringsThatFit {
			data = append(data, impl.PutString(text).Bytes...)
		}
	}
	for _, x := range varEnds {
		n := impl.ReadVar(data)
		if n.Code != impl.OK || n.Value != x.n {
			t.Fatalf("ReadVar = %v, want %d", n, x.n)
		}
		data = data[n.Size:]
		for _, text := range stringsThatFit {
			got := impl.ReadString(data)
			if got.Code != impl.OK || got.Text != text {
				t.Fatalf("ReadString = %v, want %q", got, text)
			}
			data = data[got.Size:]
		}
	}
	if len(data) != 0 {
		t.Errorf("%v is left", data)
	}
}

// An answer is overwritten to the end of its memory and kept, while others are
// asked for: neither may show in the other.
func TestAnswersOfChapter2AreNewMemory(t *testing.T) {
	var kept [][]byte
	for _, x := range varEnds {
		put := impl.PutVar(x.n).Bytes
		fill(put, 170)
		if again := impl.PutVar(x.n); !bytes.Equal(again.Bytes, x.form) {
			t.Errorf("PutVar(%d) = %v at the second call", x.n, again)
		}
		kept = append(kept, put)
	}
	for _, text := range stringsThatFit {
		put := impl.PutString(text).Bytes
		fill(put, 170)
		if again := impl.PutString(text); string(again.Bytes) != string([]byte{byte(len(text))})+text {
			t.Errorf("PutString(%q) = %v at the second call", text, again)
		}
		kept = append(kept, put)
	}
	checkFilled(t, kept, 170)
	for _, text := range stringsThatFit {
		data := append([]byte{byte(len(text))}, text...)
		got := impl.ReadString(data)
		fill(data, 0)
		if got.Text != text {
			t.Errorf("the text of ReadString turns with its argument: %q, want %q", got.Text, text)
		}
	}
}

// Arguments have more memory behind their ends, and this stays as it is, too.
func TestChapter2ChangesNoArgument(t *testing.T) {
	data := make([]byte, 0, 200)
	for _, list := range []map[string][]byte{noVar, noString} {
		for name, given := range list {
			given = given[:min(len(given), 100)]
			checkUnchanged(t, name, append(data, given...))
		}
	}
	for _, x := range varEnds {
		checkUnchanged(t, "a number", append(data, x.form...))
	}
	for _, text := range stringsThatFit {
		checkUnchanged(t, "a text", append(append(data, byte(len(text))), text...))
	}
}

func checkUnchanged(t *testing.T, name string, data []byte) {
	t.Helper()
	for i := range data[len(data):cap(data)] {
		data[len(data):cap(data)][i] = 129
	}
	whole := data[:cap(data)]
	before := slices.Clone(whole)
	impl.ReadVar(data)
	impl.ReadString(data)
	if !bytes.Equal(whole, before) {
		t.Errorf("%s: %v has been changed", name, data)
	}
}

// A fault ahead of a call must not show in the call behind it, nor must calls
// that run at the same time show in one another.
func TestAnswersOfChapter2HangOnArgumentsAlone(t *testing.T) {
	var all sync.WaitGroup
	for range 8 {
		all.Go(func() {
			for range 200 {
				if impl.PutVar(-1).Code != impl.ErrRange || impl.ReadVar([]byte{128, 0}).Code != impl.ErrText || impl.PutString("\x00").Code != impl.ErrText || impl.ReadString([]byte{2, 'h'}).Code != impl.ErrText {
					t.Error("a fault is told otherwise at a later call")
				}
				if string(impl.PutVar(300).Bytes) != "\xac\x02" || impl.ReadVar([]byte{172, 2}) != (impl.ReadResult{Value: 300, Size: 2}) || string(impl.PutString("hi").Bytes) != "\x02hi" || impl.ReadString([]byte{2, 'h', 'i'}) != (impl.StringResult{Text: "hi", Size: 3}) {
					t.Error("an answer is another one at a later call")
				}
			}
		})
	}
	all.Wait()
}

func FuzzReadVar(f *testing.F) {
	for _, x := range varEnds {
		f.Add(x.form)
	}
	for _, data := range noVar {
		f.Add(data[:min(len(data), 20)])
	}
	f.Fuzz(func(t *testing.T, data []byte) {
		checkVar(t, data)
	})
}

func FuzzReadString(f *testing.F) {
	for _, text := range stringsThatFit {
		f.Add(append([]byte{byte(len(text))}, text...))
	}
	for _, data := range noString {
		f.Add(data)
	}
	f.Fuzz(func(t *testing.T, data []byte) {
		checkString(t, data)
	})
}
