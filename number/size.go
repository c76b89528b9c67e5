package number

import (
	"cmp"
	"slices"
	"strconv"
	"strings"
)

const (
	places = 9             // decimal digits of a limb
	base   = 1_000_000_000 // the product of two limbs, and some more, stays within 64 bits
)

// size is a whole number of nought or above: its limbs, the lowest first, the last one above 0; nought has none. The calls leave those that they are given as they are.
type size []uint64

// readSize is that of decimal digits.
func readSize(digits string) size {
	var s size
	for end := len(digits); end > 0; end -= places {
		limb := uint64(0)
		for i := max(end-places, 0); i < end; i++ {
			limb = limb*10 + uint64(digits[i]-'0')
		}
		s = append(s, limb)
	}
	return s.trimmed()
}

// trimmed is without the limbs at the end that are 0.
func (s size) trimmed() size {
	for len(s) > 0 && s[len(s)-1] == 0 {
		s = s[:len(s)-1]
	}
	return s
}

func (s size) text() string {
	if len(s) == 0 {
		return "0"
	}
	var b strings.Builder
	for i, limb := range slices.Backward(s) {
		digits := strconv.FormatUint(limb, 10)
		if i < len(s)-1 {
			b.WriteString(strings.Repeat("0", places-len(digits)))
		}
		b.WriteString(digits)
	}
	return b.String()
}

// limb is the one at a place; behind the last one all are 0.
func (s size) limb(i int) uint64 {
	if i < len(s) {
		return s[i]
	}
	return 0
}

func (s size) compare(t size) int {
	if len(s) != len(t) {
		return cmp.Compare(len(s), len(t))
	}
	for i, limb := range slices.Backward(s) {
		if limb != t[i] {
			return cmp.Compare(limb, t[i])
		}
	}
	return 0
}

func (s size) plus(t size) size {
	sum := make(size, max(len(s), len(t))+1)
	carry := uint64(0)
	for i := range sum {
		carry += s.limb(i) + t.limb(i)
		sum[i] = carry % base
		carry /= base
	}
	return sum.trimmed()
}

// minus takes away one that is not greater.
func (s size) minus(t size) size {
	left := make(size, len(s))
	borrow := uint64(0)
	for i := range s {
		limb := s[i] + base - t.limb(i) - borrow
		left[i] = limb % base
		borrow = 1 - limb/base
	}
	return left.trimmed()
}

func (s size) times(t size) size {
	product := make(size, len(s)+len(t))
	for i, limb := range s {
		carry := uint64(0)
		for j := range t {
			carry += product[i+j] + limb*t[j]
			product[i+j] = carry % base
			carry /= base
		}
		product[i+len(t)] = carry
	}
	return product.trimmed()
}

// over is the quotient by one that is not nought, and the rest: a limb of the quotient at a time, guessed from the first limbs alone.
func (s size) over(t size) (size, size) {
	scale := size{base / (t[len(t)-1] + 1)} // with a divisor whose first limb is great, a guess is two too great at most
	s, t = s.times(scale), t.times(scale)
	quotient := make(size, len(s))
	var rest size
	for i, limb := range slices.Backward(s) {
		rest = slices.Insert(rest, 0, limb).trimmed()
		q := guess(rest, t)
		part := t.times(size{q}.trimmed())
		for part.compare(rest) > 0 {
			q--
			part = part.minus(t)
		}
		rest = rest.minus(part)
		quotient[i] = q
	}
	return quotient.trimmed(), rest.overLimb(scale[0])
}

// guess is how often t goes into rest, or a little more; rest is less than base times t.
func guess(rest, t size) uint64 {
	last := len(t) - 1
	head := rest.limb(last+1)*base + rest.limb(last)
	return min(head/t[last], base-1)
}

// overLimb is the quotient by a limb.
func (s size) overLimb(by uint64) size {
	quotient := make(size, len(s))
	rest := uint64(0)
	for i, limb := range slices.Backward(s) {
		rest = rest*base + limb
		quotient[i] = rest / by
		rest %= by
	}
	return quotient.trimmed()
}
