// Package run makes the ticks of a program, one behind the other.
package run

import (
	"streams/api"
	"streams/plan"
	"streams/source"
)

// track is a step and what it has done in this run.
type track struct {
	step plan.Step
	list []int // what an input was handed; it is the caller's and only read
	size int   // what a buffer may hold
	made []int // all numbers till now: as many as the clock had ones
	most int   // what a buffer held at most behind a tick
}

// Run makes at most so many ticks, with these lists for the inputs and these sizes, or nil, for the buffers.
func Run(steps []plan.Step, lists [][]int, ticks int, sizes []int) (api.Result, api.Errno) {
	e := refuse(steps, lists, ticks, sizes)
	if e != api.OK {
		return api.Result{}, e
	}
	tracks := begin(steps, lists, sizes)
	order := plan.Order(steps)
	for t := 0; t < ticks; t++ {
		if wants(tracks, t) {
			return tell(tracks, api.Wanting, t), api.OK
		}
		if overflows(tracks, t) {
			return tell(tracks, api.Overflow, t), api.OK
		}
		noteMost(tracks, t)
		makeTick(tracks, order, t)
	}
	return tell(tracks, api.Done, ticks), api.OK
}

// refuse tells what is wrong with the arguments.
func refuse(steps []plan.Step, lists [][]int, ticks int, sizes []int) api.Errno {
	if len(lists) != count(steps, source.In) {
		return api.ErrIns
	}
	if ticks < 0 || ticks > api.MaxTicks {
		return api.ErrTicks
	}
	if sizes == nil {
		return api.OK
	}
	if len(sizes) != count(steps, source.Buffer) {
		return api.ErrSizes
	}
	for n := 0; n < len(sizes); n++ {
		if sizes[n] < 0 || sizes[n] > api.MaxSize {
			return api.ErrSizes
		}
	}
	return api.OK
}

func count(steps []plan.Step, kind source.Kind) int {
	total := 0
	for n := 0; n < len(steps); n++ {
		if steps[n].Kind == kind {
			total++
		}
	}
	return total
}

// begin hands lists and sizes to the steps, in their order.
func begin(steps []plan.Step, lists [][]int, sizes []int) []track {
	tracks := []track{}
	inputs := 0
	buffers := 0
	for n := 0; n < len(steps); n++ {
		// At most one number comes at a tick, so no buffer ever holds more than this.
		one := track{step: steps[n], size: api.MaxTicks}
		if one.step.Kind == source.In && inputs < len(lists) {
			one.list = lists[inputs]
			inputs++
		}
		if one.step.Kind == source.Buffer && buffers < len(sizes) {
			one.size = sizes[buffers]
			buffers++
		}
		tracks = append(tracks, one)
	}
	return tracks
}

// wants tells whether an input has no number left for tick t.
func wants(tracks []track, t int) bool {
	for n := 0; n < len(tracks); n++ {
		one := tracks[n]
		if one.step.Kind == source.In && one.step.Clock.Bit(t) && len(one.made) >= len(one.list) {
			return true
		}
	}
	return false
}

// overflows tells whether a buffer would hold more than its size behind tick t.
func overflows(tracks []track, t int) bool {
	for n := 0; n < len(tracks); n++ {
		if held(tracks, n, t) > tracks[n].size {
			return true
		}
	}
	return false
}

// noteMost keeps what the buffers hold behind tick t, if it is more than behind the ticks ahead.
func noteMost(tracks []track, t int) {
	for n := 0; n < len(tracks); n++ {
		now := held(tracks, n, t)
		if now > tracks[n].most {
			tracks[n].most = now
		}
	}
}

// held tells what a buffer will hold behind tick t, which is not made yet; 0 of a step that is none.
func held(tracks []track, place int, t int) int {
	step := tracks[place].step
	if step.Kind != source.Buffer || len(step.Uses) != 1 {
		return 0
	}
	come := reach(tracks[step.Uses[0]], t)
	gone := reach(tracks[place], t)
	return come - gone
}

// reach tells how many numbers there will be behind tick t, which is not made yet.
func reach(one track, t int) int {
	if one.step.Clock.Bit(t) {
		return len(one.made) + 1
	}
	return len(one.made)
}

// tell gives the result of a run, in lists of its own.
func tell(tracks []track, end int, ticks int) api.Result {
	outs := [][]int{}
	most := []int{}
	for n := 0; n < len(tracks); n++ {
		step := tracks[n].step
		if step.Kind == source.Out && len(step.Uses) == 1 {
			outs = append(outs, copied(tracks[step.Uses[0]].made))
		}
		if step.Kind == source.Buffer {
			most = append(most, tracks[n].most)
		}
	}
	return api.Result{End: end, Ticks: ticks, Outs: outs, Most: most}
}

// copied is there because one stream may come out at several outputs.
func copied(list []int) []int {
	fresh := []int{}
	for n := 0; n < len(list); n++ {
		fresh = append(fresh, list[n])
	}
	return fresh
}
