package impl

import (
	"iter"
	"unicode/utf8"
)

const OK = 0
const ErrForm = 1
const ErrMany = 2
const ErrRange = 3
const ErrNone = 4
const ErrText = 5
const ErrTaken = 6
const ErrState = 7
const MaxPoint = 1114111
const MaxName = 20
const MaxText = 60

const maxPointsBytes = 4000

type IntResult struct {
	Code  int64
	Value int64
}
type BytesResult struct {
	Code  int64
	Bytes []byte
}
type TextResult struct {
	Code int64
	Text string
}
type PointsResult struct {
	Code   int64
	Points []int64
}

// A span is a class of numbers: those from low to high.
type span struct {
	low  int64
	high int64
}

func PutPoint(point int64) BytesResult {
	if !isPoint(point) {
		return BytesResult{Code: ErrRange}
	}
	return BytesResult{Bytes: utf8.AppendRune(nil, rune(point))}
}

func PointsOf(text string) PointsResult {
	if len(text) > maxPointsBytes {
		return PointsResult{Code: ErrMany}
	}
	var list []int64
	for point, ok := range pointsIn(text) {
		if !ok {
			return PointsResult{Code: ErrText}
		}
		list = append(list, point)
	}
	return PointsResult{Points: list}
}

func IsChar(point int64) bool {
	return isPoint(point) && isIn(point, span{9, 10}, span{32, 126}, span{128, 65533}, span{65536, MaxPoint})
}

func TextFault(text string) int64 {
	if len(text) > MaxText {
		return ErrMany
	}
	for point, ok := range pointsIn(text) {
		if !ok || !IsChar(point) {
			return ErrText
		}
	}
	return OK
}

func IsName(text string) bool {
	if len(text) < 1 || len(text) > MaxName || !isNameStart(text[0]) {
		return false
	}
	for i := 1; i < len(text); i++ {
		if !isNamePart(text[i]) {
			return false
		}
	}
	return true
}

func isPoint(point int64) bool {
	return isIn(point, span{0, 55295}, span{57344, MaxPoint})
}

func isNameStart(b byte) bool {
	return isIn(int64(b), span{'a', 'z'}, span{'A', 'Z'}, span{'_', '_'})
}

func isNamePart(b byte) bool {
	return isNameStart(b) || isIn(int64(b), span{'0', '9'}, span{'-', '-'}, span{'.', '.'})
}

func isIn(n int64, classes ...span) bool {
	for _, c := range classes {
		if c.low <= n && n <= c.high {
			return true
		}
	}
	return false
}

// pointsIn goes through the points of text, each told with true. Where bytes
// are no point's, it tells false instead of a point, and ends.
func pointsIn(text string) iter.Seq2[int64, bool] {
	return func(yield func(int64, bool) bool) {
		for at := 0; at < len(text); {
			point, size := utf8.DecodeRuneInString(text[at:])
			// The point 65533 itself has a size of 3; only a fault has 1.
			if point == utf8.RuneError && size == 1 {
				yield(0, false)
				return
			}
			if !yield(int64(point), true) {
				return
			}
			at += size
		}
	}
}
