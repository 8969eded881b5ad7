// Package plan makes a plan of a program's lines: it joins names to lines, finds the clocks and tells what does not go together.
package plan

import (
	"streams/api"
	"streams/source"
	"streams/word"
)

// Step is a line of which all is known.
type Step struct {
	At     int // its number in the text
	Kind   source.Kind
	Name   string
	Uses   []int // the steps whose names it uses
	Number int
	Word   word.Word
	Clock  word.Word // none as long as it is not found; an output gets none
}

// Make gives the steps of lines that were read, in their order.
func Make(lines []source.Line) ([]Step, api.Fault) {
	fault := findTwice(lines)
	if fault.E != api.OK {
		return nil, fault
	}
	steps, fault := link(lines)
	if fault.E != api.OK {
		return nil, fault
	}
	fault = findCause(steps)
	if fault.E != api.OK {
		return nil, fault
	}
	fault = findClocks(steps)
	if fault.E != api.OK {
		return nil, fault
	}
	fault = findUnfit(steps)
	if fault.E != api.OK {
		return nil, fault
	}
	return steps, api.Fault{}
}

// Names tells the names of all steps of a kind, in their order.
func Names(steps []Step, kind source.Kind) []string {
	names := []string{}
	for n := 0; n < len(steps); n++ {
		if steps[n].Kind == kind {
			names = append(names, nameOf(steps, steps[n]))
		}
	}
	return names
}

// nameOf gives a step's own name, or that which an output lets out.
func nameOf(steps []Step, step Step) string {
	if step.Kind == source.Out && len(step.Uses) == 1 {
		return steps[step.Uses[0]].Name
	}
	return step.Name
}

// Find tells which step has the name as its own, or -1.
func Find(steps []Step, name string) int {
	for n := 0; n < len(steps); n++ {
		if steps[n].Kind != source.Out && steps[n].Name == name {
			return n
		}
	}
	return -1
}

// Size tells what a buffer must hold; false if the step at this place is none.
func Size(steps []Step, place int) (int, bool) {
	if place < 0 || place >= len(steps) || steps[place].Kind != source.Buffer {
		return 0, false
	}
	return word.Size(usedClock(steps, steps[place], 0), steps[place].Clock)
}
