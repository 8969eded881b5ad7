package plan

import "streams/source"

// Order gives the places of all steps, each behind those on which it hangs at once.
func Order(steps []Step) []int {
	order := []int{}
	stands := make([]bool, len(steps))
	// Each time through but the last finds a step, since none hangs at once on itself.
	for more := true; more; {
		more = false
		for n := 0; n < len(steps); n++ {
			if !stands[n] && isReady(steps[n], stands) {
				stands[n] = true
				order = append(order, n)
				more = true
			}
		}
	}
	return order
}

// isReady tells whether all on which the step hangs at once stand in the order already.
func isReady(step Step, stands []bool) bool {
	if step.Kind == source.Fby {
		return true
	}
	for n := 0; n < len(step.Uses); n++ {
		if !stands[step.Uses[n]] {
			return false
		}
	}
	return true
}
