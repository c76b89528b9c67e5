package code

import (
	"rostrum/api"
	"rostrum/datum"
	"rostrum/fresh"
)

// compiler puts instructions one behind the other, of nodes that can be.
type compiler struct {
	code   api.Code
	consts map[string]int // the places of constants by their texts: those of data that are the same are, too
	names  map[string]int
}

func newCompiler() *compiler {
	return &compiler{consts: map[string]int{}, names: map[string]int{}}
}

// here is the place of the next instruction.
func (c *compiler) here() int { return len(c.code.Instrs) }

func (c *compiler) full() bool { return c.here() > api.MaxCode }

// put is the place of a new instruction.
func (c *compiler) put(op, a, b int) int {
	c.code.Instrs = append(c.code.Instrs, api.Instr{Op: op, A: a, B: b})
	return c.here() - 1
}

// aim has an instruction that was put ahead lead to here.
func (c *compiler) aim(place int) { c.code.Instrs[place].A = c.here() }

// node puts the instructions of a node. Nothing more comes of any, once there are too many: nodes may be far more.
func (c *compiler) node(n *api.Node, tail bool) {
	if c.full() {
		return
	}
	switch n.Op {
	case api.NIf:
		c.choice(n.Kids, tail)
	case api.NSeq:
		c.sequence(n.Kids, tail)
	case api.NCall:
		c.call(n.Kids, tail)
	default:
		c.value(n)
		if tail {
			c.put(api.OpReturn, 0, 0)
		}
	}
}

// value puts those of a node that never ends by a call.
func (c *compiler) value(n *api.Node) {
	switch n.Op {
	case api.NConst:
		c.put(api.OpConst, c.constant(n.Datum), 0)
	case api.NLocal:
		c.put(api.OpLocal, n.A, n.B)
	case api.NGlobal:
		c.put(api.OpGlobal, c.name(n.Text), 0)
	case api.NSet:
		c.node(&n.Kids[0], false)
		c.put(api.OpSet, n.A, n.B)
	case api.NSetG:
		c.node(&n.Kids[0], false)
		c.put(api.OpSetG, c.name(n.Text), 0)
	case api.NDefine:
		c.node(&n.Kids[0], false)
		c.put(api.OpDefine, c.name(n.Text), 0)
	case api.NLambda:
		c.lambda(n)
	}
}

func (c *compiler) choice(kids []api.Node, tail bool) {
	c.node(&kids[0], false)
	other := c.put(api.OpJumpF, 0, 0)
	c.node(&kids[1], tail)
	if tail {
		c.aim(other)
		c.node(&kids[2], true)
		return
	}
	behind := c.put(api.OpJump, 0, 0)
	c.aim(other)
	c.node(&kids[2], false)
	c.aim(behind)
}

func (c *compiler) sequence(kids []api.Node, tail bool) {
	last := len(kids) - 1
	for i := range kids {
		c.node(&kids[i], tail && i == last)
	}
}

func (c *compiler) call(kids []api.Node, tail bool) {
	frame := c.here()
	if !tail {
		c.put(api.OpFrame, 0, 0)
	}
	arguments := kids[1:]
	for i := range arguments {
		c.node(&arguments[i], false)
		c.put(api.OpPush, 0, 0)
	}
	c.node(&kids[0], false)
	c.put(api.OpCall, len(arguments), 0)
	if !tail {
		c.aim(frame)
	}
}

func (c *compiler) lambda(n *api.Node) {
	c.put(api.OpClosure, c.here()+2, 2*n.A+n.B)
	behind := c.put(api.OpJump, 0, 0)
	c.node(&n.Kids[0], true)
	c.aim(behind)
}

// constant is the place of a constant among all of them.
func (c *compiler) constant(d api.Datum) int {
	text := datum.Print(d)
	place, ok := c.consts[text]
	if !ok {
		place = len(c.code.Consts)
		c.consts[text] = place
		c.code.Consts = append(c.code.Consts, fresh.Datum(d))
	}
	return place
}

func (c *compiler) name(s string) int {
	place, ok := c.names[s]
	if !ok {
		place = len(c.code.Names)
		c.names[s] = place
		c.code.Names = append(c.code.Names, s)
	}
	return place
}
