package number

import "strings"

// whole is a number that can be reckoned with: its size, and whether it lies below nought (nought itself does not).
type whole struct {
	below bool
	size  size
}

func signed(below bool, s size) whole {
	return whole{below && len(s) > 0, s}
}

// read is the whole of a text that is a number.
func read(s string) whole {
	digits, below := strings.CutPrefix(s, "-")
	return signed(below, readSize(digits))
}

func (x whole) text() string {
	if x.below {
		return "-" + x.size.text()
	}
	return x.size.text()
}

func (x whole) turned() whole { return signed(!x.below, x.size) }

func (x whole) plus(y whole) whole {
	if x.below == y.below {
		return signed(x.below, x.size.plus(y.size))
	}
	if x.size.compare(y.size) < 0 {
		x, y = y, x
	}
	return signed(x.below, x.size.minus(y.size))
}

func (x whole) times(y whole) whole {
	return signed(x.below != y.below, x.size.times(y.size))
}

func (x whole) compare(y whole) int {
	switch {
	case x.below && y.below:
		return y.size.compare(x.size)
	case x.below:
		return -1
	case y.below:
		return 1
	}
	return x.size.compare(y.size)
}
