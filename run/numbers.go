package run

import (
	"streams/plan"
	"streams/source"
)

// makeTick lets each step whose clock has a 1 at tick t make its next number.
func makeTick(tracks []track, order []int, t int) {
	for n := 0; n < len(order); n++ {
		place := order[n]
		if tracks[place].step.Clock.Bit(t) {
			number := next(tracks, place)
			tracks[place].made = append(tracks[place].made, number)
		}
	}
}

// next gives a step's next number. Those on which it hangs at once have made theirs of this tick.
func next(tracks []track, place int) int {
	step := tracks[place].step
	n := len(tracks[place].made)
	switch step.Kind {
	case source.In:
		return pick(tracks[place].list, n)
	case source.Const:
		return step.Number
	case source.Fby:
		if n == 0 {
			return step.Number
		}
		return used(tracks, step, 0, n-1)
	case source.Buffer:
		return used(tracks, step, 0, n)
	case source.When:
		return latest(tracks, step, 0)
	case source.Merge:
		if step.Word.Bit(n) {
			return latest(tracks, step, 0)
		}
		return latest(tracks, step, 1)
	}
	return reckon(tracks, step, n)
}

// reckon makes the n-th number of a step of the n-th numbers that it uses.
func reckon(tracks []track, step plan.Step, n int) int {
	a := used(tracks, step, 0, n)
	b := used(tracks, step, 1, n)
	switch step.Kind {
	case source.Add:
		return a + b
	case source.Sub:
		return a - b
	case source.Mul:
		return a * b
	case source.Div:
		return quotient(a, b)
	case source.Less:
		return less(a, b)
	case source.If:
		if a != 0 {
			return b
		}
		return used(tracks, step, 2, n)
	}
	return 0
}

// quotient has nothing to do for the least number by -1: in Go too that goes round to the least number.
func quotient(a int, b int) int {
	if b == 0 {
		return 0
	}
	return a / b
}

func less(a int, b int) int {
	if a < b {
		return 1
	}
	return 0
}

// latest gives the number of this tick of the k-th name: the clocks fit, so it has one just where when and merge want it.
func latest(tracks []track, step plan.Step, k int) int {
	if k >= len(step.Uses) {
		return 0
	}
	made := tracks[step.Uses[k]].made
	return pick(made, len(made)-1)
}

// used gives the n-th number of the k-th name that a step uses.
func used(tracks []track, step plan.Step, k int, n int) int {
	if k >= len(step.Uses) {
		return 0
	}
	return pick(tracks[step.Uses[k]].made, n)
}

// pick asks first whether there is such a number, though in a program whose clocks fit there always is.
func pick(list []int, n int) int {
	if n < 0 || n >= len(list) {
		return 0
	}
	return list[n]
}
