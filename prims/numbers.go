package prims

import (
	"rostrum/api"
	"rostrum/number"
)

// digits is the number that an argument is.
func (c call) digits(i int) string {
	s, _ := Digits(c.h, c.arg(i))
	return s
}

// fold does something with a number and each argument from a place on, one by one.
func (c call) fold(sofar string, from int, do func(a, b string) (string, api.Errno)) (api.Word, api.Errno) {
	for i := from; i < c.count; i++ {
		s, e := do(sofar, c.digits(i))
		if e != api.OK {
			return 0, e
		}
		sofar = s
	}
	return Number(c.h, sofar)
}

func (c call) plus() (api.Word, api.Errno)  { return c.fold("0", 0, number.Add) }
func (c call) times() (api.Word, api.Errno) { return c.fold("1", 0, number.Mul) }

func (c call) minus() (api.Word, api.Errno) {
	if c.count == 1 {
		return c.fold("0", 0, number.Sub)
	}
	return c.fold(c.digits(0), 1, number.Sub)
}

func (c call) quotient() (api.Word, api.Errno)  { return c.fold(c.digits(0), 1, number.Quo) }
func (c call) remainder() (api.Word, api.Errno) { return c.fold(c.digits(0), 1, number.Rem) }

// compared is whether the first of two numbers lies so to the second, as number.Compare tells.
func (c call) compared(so int) (api.Word, api.Errno) {
	n, _ := number.Compare(c.digits(0), c.digits(1))
	return truth(n == so), api.OK
}

func (c call) isSameNumber() (api.Word, api.Errno) { return c.compared(0) }
func (c call) isBelow() (api.Word, api.Errno)      { return c.compared(-1) }
func (c call) isAbove() (api.Word, api.Errno)      { return c.compared(1) }
