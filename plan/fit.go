package plan

import (
	"streams/api"
	"streams/source"
	"streams/word"
)

// findUnfit tells the first step whose clock does not go together with those of the names that it uses.
func findUnfit(steps []Step) api.Fault {
	for n := 0; n < len(steps); n++ {
		if !fits(steps, steps[n]) {
			return api.Fault{E: api.ErrClock, Line: steps[n].At}
		}
	}
	return api.Fault{}
}

func fits(steps []Step, step Step) bool {
	if step.Kind == source.Out {
		return true
	}
	if step.Clock.None() {
		return false
	}
	if isEven(step.Kind) {
		return fitsEven(steps, step)
	}
	switch step.Kind {
	case source.Merge:
		return fitsMerge(steps, step)
	case source.Buffer:
		return fitsBuffer(steps, step)
	}
	return true
}

func fitsEven(steps []Step, step Step) bool {
	for n := 0; n < len(step.Uses); n++ {
		if usedClock(steps, step, n) != step.Clock {
			return false
		}
	}
	return true
}

func fitsMerge(steps []Step, step Step) bool {
	first := word.On(step.Clock, step.Word)
	second := word.On(step.Clock, word.Not(step.Word))
	return first == usedClock(steps, step, 0) && second == usedClock(steps, step, 1)
}

func fitsBuffer(steps []Step, step Step) bool {
	from := usedClock(steps, step, 0)
	if from.None() {
		return false
	}
	_, adapts := word.Size(from, step.Clock)
	return adapts
}
