// Package streams: programs over streams with periodic clocks: see DOC.md.
package streams

import (
	"streams/api"
	"streams/plan"
	"streams/run"
	"streams/source"
	"streams/word"
)

// Normal gives a word's normal form (P3).
func Normal(a string) (string, api.Errno) {
	v, ok := word.Parse(a)
	if !ok {
		return "", api.ErrWord
	}
	return tell(v)
}

// Not turns all bits of a word (P4).
func Not(a string) (string, api.Errno) {
	v, ok := word.Parse(a)
	if !ok {
		return "", api.ErrWord
	}
	return tell(word.Not(v))
}

// Either has a 1 where one of two words has one (P4).
func Either(a string, b string) (string, api.Errno) {
	v, w, ok := parseBoth(a, b)
	if !ok {
		return "", api.ErrWord
	}
	return tell(word.Either(v, w))
}

// On takes a word by another's ones (P4).
func On(a string, b string) (string, api.Errno) {
	v, w, ok := parseBoth(a, b)
	if !ok {
		return "", api.ErrWord
	}
	return tell(word.On(v, w))
}

// Ahead tells whether a word is never behind another (P5).
func Ahead(a string, b string) (bool, api.Errno) {
	v, w, ok := parseBoth(a, b)
	if !ok {
		return false, api.ErrWord
	}
	return word.Ahead(v, w), api.OK
}

// Size tells what a buffer from the one word to the other must hold (P5).
func Size(a string, b string) (int, api.Errno) {
	v, w, ok := parseBoth(a, b)
	if !ok {
		return 0, api.ErrWord
	}
	size, adapts := word.Size(v, w)
	if !adapts {
		return 0, api.ErrApart
	}
	return size, api.OK
}

func parseBoth(a string, b string) (word.Word, word.Word, bool) {
	v, first := word.Parse(a)
	w, second := word.Parse(b)
	if !first || !second {
		return word.Word{}, word.Word{}, false
	}
	return v, w, true
}

// tell lets a word come out, if it is short enough.
func tell(w word.Word) (string, api.Errno) {
	if w.Long() {
		return "", api.ErrLong
	}
	return w.Text(), api.OK
}

// Program is a text that was compiled.
type Program struct {
	steps []plan.Step
}

// Compile compiles a text (P6 to P9).
func Compile(text string) (*Program, api.Fault) {
	lines, fault := source.Read(text)
	if fault.E != api.OK {
		return nil, fault
	}
	steps, fault := plan.Make(lines)
	if fault.E != api.OK {
		return nil, fault
	}
	return &Program{steps: steps}, api.Fault{}
}

// Ins tells the inputs' names (P10).
func (p *Program) Ins() []string { return plan.Names(p.steps, source.In) }

// Outs tells the outputs' names (P10).
func (p *Program) Outs() []string { return plan.Names(p.steps, source.Out) }

// Buffers tells the buffers' names (P10).
func (p *Program) Buffers() []string { return plan.Names(p.steps, source.Buffer) }

// Clock tells the clock of a name (P10).
func (p *Program) Clock(name string) (string, api.Errno) {
	place := plan.Find(p.steps, name)
	if place < 0 {
		return "", api.ErrUnknown
	}
	return p.steps[place].Clock.Text(), api.OK
}

// Size tells the size of a buffer (P10).
func (p *Program) Size(name string) (int, api.Errno) {
	place := plan.Find(p.steps, name)
	size, ok := plan.Size(p.steps, place)
	if !ok {
		return 0, api.ErrUnknown
	}
	return size, api.OK
}

// Run runs the program (P11 to P13).
func (p *Program) Run(ins [][]int, ticks int, sizes []int) (api.Result, api.Errno) {
	return run.Run(p.steps, ins, ticks, sizes)
}
