package plan

import (
	"streams/api"
	"streams/source"
)

// findTwice tells the first line whose own name an earlier line has.
func findTwice(lines []source.Line) api.Fault {
	for n := 0; n < len(lines); n++ {
		if lines[n].Name != "" && owner(lines[:n], lines[n].Name) >= 0 {
			return api.Fault{E: api.ErrTwice, Line: lines[n].At}
		}
	}
	return api.Fault{}
}

// owner tells which line has the name as its own, or -1.
func owner(lines []source.Line, name string) int {
	for n := 0; n < len(lines); n++ {
		if lines[n].Name == name {
			return n
		}
	}
	return -1
}

// link makes the steps, or tells the first line that uses a name that no line has.
func link(lines []source.Line) ([]Step, api.Fault) {
	steps := []Step{}
	for n := 0; n < len(lines); n++ {
		line := lines[n]
		uses, ok := owners(lines, line.Uses)
		if !ok {
			return nil, api.Fault{E: api.ErrUnknown, Line: line.At}
		}
		steps = append(steps, Step{At: line.At, Kind: line.Kind, Name: line.Name, Uses: uses, Number: line.Number, Word: line.Word})
	}
	return steps, api.Fault{}
}

func owners(lines []source.Line, names []string) ([]int, bool) {
	places := []int{}
	for n := 0; n < len(names); n++ {
		place := owner(lines, names[n])
		if place < 0 {
			return nil, false
		}
		places = append(places, place)
	}
	return places, true
}

// findCause tells the first step that hangs at once on itself.
func findCause(steps []Step) api.Fault {
	for n := 0; n < len(steps); n++ {
		if hangsOnItself(steps, n) {
			return api.Fault{E: api.ErrCause, Line: steps[n].At}
		}
	}
	return api.Fault{}
}

// hangsOnItself goes from the step to all on which it hangs at once, to each one time, till it meets the step again.
func hangsOnItself(steps []Step, start int) bool {
	met := make([]bool, len(steps))
	walk := []int{start}
	for n := 0; n < len(walk); n++ {
		step := steps[walk[n]]
		if step.Kind == source.Fby {
			continue
		}
		for k := 0; k < len(step.Uses); k++ {
			use := step.Uses[k]
			if use == start {
				return true
			}
			if !met[use] {
				met[use] = true
				walk = append(walk, use)
			}
		}
	}
	return false
}
