package code

import (
	"rostrum/api"
	"rostrum/datum"
)

// bare is the instructions that have nothing but their Op.
var bare = [...]api.Instr{{Op: api.OpPush}, {Op: api.OpReturn}, {Op: api.OpHalt}}

// Verify tells whether code may be run.
func Verify(c api.Code) api.Errno {
	count := len(c.Instrs)
	if count == 0 || count > api.MaxCode || !endsCode(c.Instrs[count-1]) {
		return api.ErrCode
	}
	room := roomIn(c)
	for _, in := range c.Instrs {
		if !isBare(in) && !room.holds(in) {
			return api.ErrCode
		}
	}
	for _, d := range c.Consts {
		if !datum.Can(d) {
			return api.ErrCode
		}
	}
	for _, s := range c.Names {
		if !isName(s) {
			return api.ErrCode
		}
	}
	return api.OK
}

// endsCode tells whether nothing need stand behind an instruction.
func endsCode(in api.Instr) bool {
	switch in.Op {
	case api.OpHalt, api.OpReturn, api.OpJump, api.OpCall:
		return true
	}
	return false
}

func isBare(in api.Instr) bool {
	for _, b := range bare {
		if in == b {
			return true
		}
	}
	return false
}

// room is, by the Op of instructions, how many A and B there are for them, from 0 on; none, if they are bare.
type room [api.NumOps]api.Instr

func roomIn(c api.Code) *room {
	constant := api.Instr{A: len(c.Consts), B: 1}
	name := api.Instr{A: len(c.Names), B: 1}
	place := api.Instr{A: len(c.Instrs), B: 1}
	local := api.Instr{A: mostRibs + 1, B: api.MaxParams + 1}
	return &room{
		api.OpConst:   constant,
		api.OpLocal:   local,
		api.OpGlobal:  name,
		api.OpSet:     local,
		api.OpSetG:    name,
		api.OpDefine:  name,
		api.OpJump:    place,
		api.OpJumpF:   place,
		api.OpClosure: {A: place.A, B: 2*api.MaxParams + 2},
		api.OpFrame:   place,
		api.OpCall:    {A: mostArguments + 1, B: 1},
	}
}

func (r *room) holds(in api.Instr) bool {
	return inside(in.Op, len(r)) && inside(in.A, r[in.Op].A) && inside(in.B, r[in.Op].B)
}
