package mrun

import (
	"slices"

	"intarsia/api"
	"intarsia/mach"
	"intarsia/mir"
	"intarsia/run"
)

// state is what a run has, all of it its own.
type state struct {
	m       api.Machine
	blocks  []api.Block
	soFar   run.Result
	values  map[api.Loc]int // of the places that have one
	saved   []kept
	answers []int // those that are left
	spot          // where it stands
}

// What a step leaves: the spot where the run stands now, or that it is over.
type (
	spot struct{ block, ins int }
	over struct {
		end   api.EndKind
		value int
	}
)

// kept is a register that must be left as it was, and what it had at first.
type kept struct {
	at    api.Loc
	first int
}

func trap() over   { return over{end: api.EndTrap} }
func broken() over { return over{end: api.EndBroken} }

// begun is what a run of a right target has ahead of all that it is given.
func begun(m api.Machine, t api.Target) state {
	m.Args, m.Saved = slices.Clone(m.Args), slices.Clone(m.Saved)
	return state{m: m, blocks: blocksApart(t.Blocks), values: map[api.Loc]int{}}
}

// enter lays first values into the saved registers, then arguments, which may come in saved ones, too.
func (s *state) enter(args, first []int) {
	for n, r := range s.m.Saved {
		s.values[register(r)] = 0
		if n < len(first) {
			s.values[register(r)] = first[n]
		}
	}
	for n, a := range args {
		s.values[register(s.m.Args[n])] = a
	}
	for _, r := range s.m.Saved {
		s.saved = append(s.saved, kept{register(r), s.values[register(r)]})
	}
}

func register(n int) api.Loc { return api.Loc{N: n} }

// step does that where it stands, and takes what that leaves.
func (s *state) step() {
	s.soFar.Steps++
	left := s.does()
	if to, ok := left.(spot); ok {
		s.spot = to
		return
	}
	o := left.(over)
	s.soFar.End, s.soFar.Value = o.end, o.value
}

// does is what is left of that where it stands.
func (s *state) does() any {
	b := s.blocks[s.block]
	if s.ins == len(b.Ins) {
		return s.ends(b.Term)
	}
	return s.acts(b.Ins[s.ins])
}

// of are the values of places, in order; false: one of them has none.
func (s *state) of(places []api.Loc) (l []int, ok bool) {
	hasNone := func(p api.Loc) bool {
		_, is := s.values[p]
		return !is
	}
	if slices.ContainsFunc(places, hasNone) {
		return nil, false
	}
	for _, p := range places {
		l = append(l, s.values[p])
	}
	return l, true
}

// acts does an instruction.
func (s *state) acts(i api.Ins) any {
	read, ok := s.of(mir.Reads(s.m, i))
	if !ok {
		return broken()
	}
	n, ok := s.made(i, read)
	if !ok {
		return trap()
	}
	for _, p := range mir.Writes(s.m, i) {
		s.values[p] = n
	}
	return spot{s.block, s.ins + 1}
}

// made is what an instruction makes of what it read, for what it writes, if that is a place; false: a trap.
func (s *state) made(i api.Ins, read []int) (int, bool) {
	switch i.Op {
	case api.OpConst:
		return i.Imm, true
	case api.OpMove, api.OpPut, api.OpGet:
		return read[0], true
	case api.OpLoad:
		return s.load(read[0] + i.Imm)
	case api.OpStore:
		return 0, s.store(read[0]+i.Imm, read[1])
	case api.OpCall:
		return s.call(i.Callee, read)
	}
	return run.Calc(i.Op, read[0], read[1])
}

func (s *state) hasWord(n int) bool { return 0 <= n && n < len(s.soFar.Mem) }

func (s *state) load(word int) (int, bool) {
	if !s.hasWord(word) {
		return 0, false
	}
	return s.soFar.Mem[word], true
}

func (s *state) store(word, n int) bool {
	if !s.hasWord(word) {
		return false
	}
	s.soFar.Mem[word] = n
	return true
}

// call notes a call, and takes an answer, which loses all registers that are not saved.
func (s *state) call(callee int, args []int) (int, bool) {
	s.soFar.Calls = append(s.soFar.Calls, api.Call{Callee: callee, Args: args})
	if len(s.answers) == 0 {
		return 0, false
	}
	for _, r := range mach.Lost(s.m) {
		delete(s.values, register(r))
	}
	n := s.answers[0]
	s.answers = s.answers[1:]
	return n, true
}

// ends does an end.
func (s *state) ends(t api.Term) any {
	read, ok := s.of(mir.Needs(t))
	if !ok {
		return broken()
	}
	a := append(read, 0)[0] // 0, where nothing is read
	switch t.Kind {
	case api.TermJump:
		return spot{block: t.To[0]}
	case api.TermBranch:
		if a != 0 {
			return spot{block: t.To[0]}
		}
		return spot{block: t.To[1]}
	case api.TermReturn:
		if slices.ContainsFunc(s.saved, s.isAnother) {
			return broken()
		}
		return over{api.EndReturn, a}
	}
	return trap()
}

// isAnother says whether a register that must be left as it was is not.
func (s *state) isAnother(k kept) bool {
	n, ok := s.values[k.at]
	return !ok || n != k.first
}

// blocksApart are blocks that share nothing with these, which, being right, have no Args.
func blocksApart(l []api.Block) []api.Block {
	l = slices.Clone(l)
	for b := range l {
		l[b].Ins = slices.Clone(l[b].Ins)
	}
	return l
}

// callsApart are calls that share nothing with these.
func callsApart(l []api.Call) []api.Call {
	l = slices.Clone(l)
	for n := range l {
		l[n].Args = slices.Clone(l[n].Args)
	}
	return l
}
