package run

import (
	"slices"

	"intarsia/api"
	"intarsia/ir"
)

// state is what a run has, all of it its own.
type state struct {
	soFar      Result
	blocks     []api.Block
	values     map[int]int // of the variables that have one
	answers    []int       // those that are left
	block, ins int         // where it stands
}

// begun is what a run of a right function has at first.
func begun(f api.Func, args, mem, answers []int) state {
	s := state{
		soFar:   Result{Mem: slices.Clone(mem)},
		blocks:  blocksApart(f.Blocks),
		values:  map[int]int{},
		answers: slices.Clone(answers),
	}
	for n, v := range f.Params {
		s.values[v] = args[n]
	}
	return s
}

// step does that where it stands.
func (s *state) step() {
	s.soFar.Steps++
	b := s.blocks[s.block]
	if s.ins == len(b.Ins) {
		s.leave(b.Term)
		return
	}
	i := b.Ins[s.ins]
	n, ok := s.made(i)
	if !ok {
		s.stop(trap())
		return
	}
	if i.Dst != 0 {
		s.values[i.Dst] = n
	}
	s.ins++
}

// of are the values of variables, in order.
func (s *state) of(vars ...int) (l []int) {
	for _, v := range vars {
		l = append(l, s.values[v])
	}
	return l
}

// made is what an instruction makes, for its Dst, if it has one; false: a trap.
func (s *state) made(i api.Ins) (int, bool) {
	read := s.of(ir.Reads(i)...)
	switch i.Op {
	case api.OpConst:
		return i.Imm, true
	case api.OpCopy:
		return read[0], true
	case api.OpLoad:
		return s.load(read[0] + i.Imm)
	case api.OpStore:
		return 0, s.store(read[0]+i.Imm, read[1])
	case api.OpCall:
		return s.call(i.Callee, read)
	}
	return Calc(i.Op, read[0], read[1])
}

func (s *state) hasPlace(n int) bool { return 0 <= n && n < len(s.soFar.Mem) }

func (s *state) load(place int) (int, bool) {
	if !s.hasPlace(place) {
		return 0, false
	}
	return s.soFar.Mem[place], true
}

func (s *state) store(place, n int) bool {
	if !s.hasPlace(place) {
		return false
	}
	s.soFar.Mem[place] = n
	return true
}

// call notes a call, and takes an answer, which it does without a Dst, too.
func (s *state) call(callee int, args []int) (int, bool) {
	s.soFar.Calls = append(s.soFar.Calls, api.Call{Callee: callee, Args: args})
	if len(s.answers) == 0 {
		return 0, false
	}
	n := s.answers[0]
	s.answers = s.answers[1:]
	return n, true
}

// What an end does: the run goes to a block, or is over.
type (
	goes int
	over struct {
		end   api.EndKind
		value int
	}
)

func trap() over { return over{end: api.EndTrap} }

// does is what an end does.
func (s *state) does(t api.Term) any {
	a := append(s.of(ir.Needs(t)...), 0)[0] // 0, where there is no A
	switch t.Kind {
	case api.TermJump:
		return goes(t.To[0])
	case api.TermBranch:
		if a != 0 {
			return goes(t.To[0])
		}
		return goes(t.To[1])
	case api.TermReturn:
		return over{api.EndReturn, a}
	}
	return trap()
}

// leave does an end.
func (s *state) leave(t api.Term) {
	what := s.does(t)
	if to, ok := what.(goes); ok {
		s.block, s.ins = int(to), 0
		return
	}
	s.stop(what.(over))
}

// stop ends the run, which stays where it stands.
func (s *state) stop(o over) {
	s.soFar.End, s.soFar.Value = o.end, o.value
}

// blocksApart are blocks that share nothing with these.
func blocksApart(l []api.Block) []api.Block {
	l = slices.Clone(l)
	for b := range l {
		l[b].Ins = slices.Clone(l[b].Ins)
		for i := range l[b].Ins {
			l[b].Ins[i].Args = slices.Clone(l[b].Ins[i].Args)
		}
	}
	return l
}

// callsApart are calls that share nothing with these.
func callsApart(l []api.Call) []api.Call {
	l = slices.Clone(l)
	for n := range l {
		l[n].Args = slices.Clone(l[n].Args)
	}
	return l
}
