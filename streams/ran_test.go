package streams_test

import (
	"math/big"
	"slices"
	"strings"

	"streams/api"
)

// This is the document's meaning of runs, told in the slowest way: streams are lists that are made without clocks, over and over till none gets longer; clocks tell the end alone.

const (
	least    = -1 << 63
	greatest = 1<<63 - 1
)

// wrapped goes round modulo 2^64.
func wrapped(x *big.Int) int {
	low := new(big.Int).And(x, new(big.Int).SetUint64(1<<64-1))
	return int(low.Uint64())
}

func modelReckon(op string, a, b int) int {
	x, y, z := big.NewInt(int64(a)), big.NewInt(int64(b)), new(big.Int)
	switch op {
	case "add":
		z.Add(x, y)
	case "sub":
		z.Sub(x, y)
	case "mul":
		z.Mul(x, y)
	case "div":
		if b != 0 {
			z.Quo(x, y)
		}
	case "less":
		if x.Cmp(y) < 0 {
			z.SetInt64(1)
		}
	}
	return wrapped(z)
}

func modelMerge(bits string, first, second []int) []int {
	var list []int
	for _, bit := range bits {
		from := &first
		if bit == '0' {
			from = &second
		}
		if len(*from) == 0 {
			break
		}
		list, *from = append(list, (*from)[0]), (*from)[1:]
	}
	return list
}

// modelList makes of the lists that a line uses its own, of which no more than so many numbers are asked for.
func modelList(l modelLine, used [][]int, handed []int, many int) []int {
	var list []int
	switch l.op {
	case "in":
		list = handed
	case "const":
		list = slices.Repeat([]int{l.number}, many)
	case "fby":
		list = append([]int{l.number}, used[0]...)
	case "buffer":
		list = used[0]
	case "when":
		for n, bit := range spell(l.word, len(used[0])) {
			if bit == '1' {
				list = append(list, used[0][n])
			}
		}
	case "merge":
		list = modelMerge(spell(l.word, many), used[0], used[1])
	case "if":
		for n := 0; n < min(len(used[0]), len(used[1]), len(used[2])); n++ {
			if used[0][n] != 0 {
				list = append(list, used[1][n])
			} else {
				list = append(list, used[2][n])
			}
		}
	default:
		for n := 0; n < min(len(used[0]), len(used[1])); n++ {
			list = append(list, modelReckon(l.op, used[0][n], used[1][n]))
		}
	}
	return list[:min(len(list), many)]
}

func modelStreams(lines []modelLine, ins [][]int, many int) map[string][]int {
	lists := map[string][]int{}
	for more := true; more; {
		more = false
		inputs := 0
		for _, l := range lines {
			if l.op == "out" {
				continue
			}
			var used [][]int
			for _, use := range l.uses {
				used = append(used, lists[use])
			}
			var handed []int
			if l.op == "in" {
				handed = ins[inputs]
				inputs++
			}
			list := modelList(l, used, handed, many)
			more = more || len(list) > len(lists[l.own])
			lists[l.own] = list
		}
	}
	return lists
}

func ones(bits string, n int) int { return strings.Count(bits[:n], "1") }

func modelRefuse(inputs, buffers int, ins [][]int, ticks int, sizes []int) api.Errno {
	switch {
	case len(ins) != inputs:
		return api.ErrIns
	case ticks < 0 || ticks > 4096:
		return api.ErrTicks
	case sizes != nil && len(sizes) != buffers:
		return api.ErrSizes
	case slices.ContainsFunc(sizes, func(size int) bool { return size < 0 || size > 1048576 }):
		return api.ErrSizes
	}
	return api.OK
}

// modelRun runs a text that is a program.
func modelRun(source string, ins [][]int, ticks int, sizes []int) (api.Result, api.Errno) {
	lines, _ := modelRead(source)
	clocks, _ := modelClocks(lines)
	var inputs, outs []string
	var buffers [][2]string
	for _, l := range lines {
		switch l.op {
		case "in":
			inputs = append(inputs, l.own)
		case "out":
			outs = append(outs, l.uses[0])
		case "buffer":
			buffers = append(buffers, [2]string{l.uses[0], l.own})
		}
	}
	if e := modelRefuse(len(inputs), len(buffers), ins, ticks, sizes); e != api.OK {
		return api.Result{}, e
	}
	held := func(n, t int) int { return ones(clocks[buffers[n][0]], t+1) - ones(clocks[buffers[n][1]], t+1) }
	r := api.Result{End: api.Done, Most: make([]int, len(buffers))}
	for ; r.Ticks < ticks; r.Ticks++ {
		for n := range buffers {
			if sizes != nil && held(n, r.Ticks) > sizes[n] {
				r.End = api.Overflow
			}
		}
		for n, name := range inputs {
			if clocks[name][r.Ticks] == '1' && ones(clocks[name], r.Ticks) >= len(ins[n]) {
				r.End = api.Wanting
			}
		}
		if r.End != api.Done {
			break
		}
		for n := range buffers {
			r.Most[n] = max(r.Most[n], held(n, r.Ticks))
		}
	}
	lists := modelStreams(lines, ins, ticks)
	for _, name := range outs {
		// A list that is too short stays so, and the answer can't be like it.
		r.Outs = append(r.Outs, lists[name][:min(len(lists[name]), ones(clocks[name], r.Ticks))])
	}
	return r, api.OK
}
