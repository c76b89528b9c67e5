package code

import (
	"math"

	"rostrum/api"
	"rostrum/datum"
)

const (
	mostWithin    = 400 // a node within so many others can't be
	mostRibs      = 100 // that a local lies up
	mostArguments = 255 // of a call
)

// shape is what a node of a kind has: from fewest to most Kids, A from 0 to a, B from 0 to b, and whether its Text is a name.
type shape struct {
	fewest, most, a, b int
	named              bool
}

// shapes is those of nodes, by their Op.
var shapes = [...]shape{
	api.NConst:  {},
	api.NLocal:  {a: mostRibs, b: api.MaxParams},
	api.NGlobal: {named: true},
	api.NSet:    {fewest: 1, most: 1, a: mostRibs, b: api.MaxParams},
	api.NSetG:   {fewest: 1, most: 1, named: true},
	api.NIf:     {fewest: 3, most: 3},
	api.NLambda: {fewest: 1, most: 1, a: api.MaxParams, b: 1},
	api.NSeq:    {fewest: 1, most: math.MaxInt},
	api.NCall:   {fewest: 1, most: 1 + mostArguments},
	api.NDefine: {fewest: 1, most: 1, named: true},
}

// canBe tells whether nodes that stand outside can be, with all that is in them.
func canBe(l []api.Node) bool {
	c := checker{fine: map[group]int{}}
	return c.nodes(l, 0)
}

// group is a list of nodes, told by where it is.
type group struct {
	first *api.Node
	count int
}

// checker knows which lists had no fault, and within how many others: one that a hand made part of many nodes, at each depth again, would else be gone through more often than there is time for.
type checker struct{ fine map[group]int }

// nodes tells whether nodes that are within so many others can be.
func (c checker) nodes(l []api.Node, within int) bool {
	if len(l) == 0 {
		return true
	}
	if within >= mostWithin {
		return false
	}
	g := group{&l[0], len(l)}
	if deepest, ok := c.fine[g]; ok && within <= deepest {
		return true
	}
	for i := range l {
		if !fits(&l[i]) || !c.nodes(l[i].Kids, within+1) {
			return false
		}
	}
	c.fine[g] = within
	return true
}

// fits tells whether a node's own fields are as its kind asks, whatever its Kids are.
func fits(n *api.Node) bool {
	if n.Op < api.NConst || n.Op >= len(shapes) {
		return false
	}
	s := shapes[n.Op]
	if len(n.Kids) < s.fewest || len(n.Kids) > s.most {
		return false
	}
	return textFits(n, s.named) && datumFits(n) && inside(n.A, s.a+1) && inside(n.B, s.b+1)
}

func textFits(n *api.Node, named bool) bool {
	if named {
		return isName(n.Text)
	}
	return n.Text == ""
}

func datumFits(n *api.Node) bool {
	if n.Op == api.NConst {
		return datum.Can(n.Datum)
	}
	d := &n.Datum
	return d.Kind == 0 && d.Text == "" && len(d.List) == 0 && len(d.Tail) == 0
}

func isName(s string) bool { return datum.Can(api.Datum{Kind: api.DSymbol, Text: s}) }

// inside tells whether n is one of so many numbers from 0 on.
func inside(n, count int) bool { return n >= 0 && n < count }
