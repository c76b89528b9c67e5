package datum

import (
	"strings"

	"rostrum/api"
	"rostrum/number"
)

const (
	longest = 64 // bytes of a name
	marks   = "!$%&*/:<=>?^_~+-.@"
)

// shape is how deep a datum is, and how many data it has.
type shape struct{ depth, size int }

// measure is the shape of a datum that may be, and is at most so deep. It stops at the first part that may not be, so data that hold themselves end soon.
func measure(d api.Datum, most int) (shape, bool) {
	if !fits(d) {
		return shape{}, false
	}
	if d.Kind != api.DList && d.Kind != api.DVector {
		return shape{size: 1}, true
	}
	if most == 0 {
		return shape{}, false
	}
	s := shape{depth: 1, size: 1}
	for _, parts := range [2][]api.Datum{d.List, d.Tail} {
		for _, x := range parts {
			part, ok := measure(x, most-1)
			if !ok {
				return shape{}, false
			}
			s.depth = max(s.depth, 1+part.depth)
			s.size += part.size
		}
	}
	return s, true
}

// fits tells whether a datum's own fields are as its kind asks, whatever its parts are.
func fits(d api.Datum) bool {
	switch d.Kind {
	case api.DList:
		return d.Text == "" && tailFits(d)
	case api.DVector:
		return d.Text == "" && len(d.Tail) == 0
	}
	return len(d.List) == 0 && len(d.Tail) == 0 && textFits(d)
}

func tailFits(d api.Datum) bool {
	switch len(d.Tail) {
	case 0:
		return true
	case 1:
		return len(d.List) > 0 && d.Tail[0].Kind != api.DList
	}
	return false
}

func textFits(d api.Datum) bool {
	switch d.Kind {
	case api.DNumber:
		return number.Can(d.Text)
	case api.DBool:
		return isTruth(d.Text)
	case api.DString:
		return true
	case api.DSymbol:
		return isName(d.Text)
	}
	return false
}

func isTruth(s string) bool { return s == "#t" || s == "#f" }

func isName(s string) bool {
	if s == "" || len(s) > longest || s == "." || beginsNumber(s) {
		return false
	}
	for i := range len(s) {
		if !inNames(s[i]) {
			return false
		}
	}
	return true
}

// beginsNumber tells whether a text begins as only numbers may.
func beginsNumber(s string) bool {
	_, digits := cutSign(s)
	return digits != "" && isDigit(digits[0])
}

// cutSign parts a text into the sign that it may have ahead, and the rest.
func cutSign(s string) (string, string) {
	if s != "" && (s[0] == '+' || s[0] == '-') {
		return s[:1], s[1:]
	}
	return "", s
}

func inNames(c byte) bool {
	letter := c|0x20 >= 'a' && c|0x20 <= 'z' // the bit by which small letters differ from great ones
	return letter || isDigit(c) || strings.IndexByte(marks, c) >= 0
}

func isDigit(c byte) bool { return c >= '0' && c <= '9' }
