package plan

import (
	"streams/api"
	"streams/source"
	"streams/word"
)

// findClocks sets the clocks as far as they can be found, or tells the first that is found and is too long.
func findClocks(steps []Step) api.Fault {
	for n := 0; n < len(steps); n++ {
		if isGiven(steps[n].Kind) {
			steps[n].Clock = steps[n].Word
		}
	}
	// Each time through but the last finds a clock, so there are no more of them than steps, and one.
	for more := true; more; {
		more = false
		for n := 0; n < len(steps); n++ {
			if !steps[n].Clock.None() {
				continue
			}
			clock := clockOf(steps, steps[n])
			if clock.Long() {
				return api.Fault{E: api.ErrLong, Line: steps[n].At}
			}
			if !clock.None() {
				steps[n].Clock = clock
				more = true
			}
		}
	}
	return api.Fault{}
}

// isGiven tells whether the line itself says its clock.
func isGiven(kind source.Kind) bool {
	switch kind {
	case source.In, source.Const, source.Buffer:
		return true
	}
	return false
}

// isEven tells whether all names that are used must have the clock of the line.
func isEven(kind source.Kind) bool {
	switch kind {
	case source.Add, source.Sub, source.Mul, source.Div, source.Less, source.If, source.Fby:
		return true
	}
	return false
}

// clockOf finds a clock from those of the names that are used; none if they do not tell it yet.
func clockOf(steps []Step, step Step) word.Word {
	if isEven(step.Kind) {
		return firstClock(steps, step)
	}
	first := usedClock(steps, step, 0)
	second := usedClock(steps, step, 1)
	if step.Kind == source.When && !first.None() {
		return word.On(first, step.Word)
	}
	if step.Kind == source.Merge && !first.None() && !second.None() {
		return word.Either(first, second)
	}
	return word.Word{}
}

func firstClock(steps []Step, step Step) word.Word {
	for n := 0; n < len(step.Uses); n++ {
		clock := usedClock(steps, step, n)
		if !clock.None() {
			return clock
		}
	}
	return word.Word{}
}

// usedClock gives the clock of the n-th name that is used; none if there are fewer.
func usedClock(steps []Step, step Step, n int) word.Word {
	if n < 0 || n >= len(step.Uses) {
		return word.Word{}
	}
	return steps[step.Uses[n]].Clock
}
