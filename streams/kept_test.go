package streams_test

import (
	"fmt"
	"reflect"
	"testing"

	"streams/api"
	"streams/streams"
)

// roomy gives the list with room behind it, in which marks stand.
func roomy(list []int) []int {
	wide := append(append(make([]int, 0, len(list)+3), list...), 77, 78, 79)
	return wide[:len(list)]
}

// whole gives a list with its spare room.
func whole[T any](list []T) []T { return list[:cap(list)] }

// spoil writes into all of a result, the spare room too.
func spoil(r api.Result) {
	for _, list := range r.Outs {
		for k := range whole(list) {
			whole(list)[k] = 99
		}
	}
	for k := range whole(r.Outs) {
		whole(r.Outs)[k] = []int{99}
	}
	for k := range whole(r.Most) {
		whole(r.Most)[k] = 99
	}
}

const keeping = "in x (1)/in y (10)/b = buffer y (01)/c = buffer x 0(1)/n = fby 3 m/m = add n c/w = when x (110)/out x/out n/out x/out y/out b/out w/out c/out x"

func TestArgumentsOfRunsAreOnlyRead(t *testing.T) {
	p := compile(t, text(keeping))
	for _, c := range []struct {
		ticks int
		sizes []int
	}{{6, []int{1, 1}}, {9, []int{1, 1}}, {6, []int{1, 0}}, {6, nil}, {-1, []int{1, 1}}, {6, []int{1, -1}}, {6, []int{1}}} {
		x, y, sizes := roomy(upTo(6)), roomy([]int{4, 5, 6}), c.sizes
		if sizes != nil {
			sizes = roomy(sizes)
		}
		extra := roomy([]int{1, 2})
		ins := append(make([][]int, 0, 4), x, y, extra)[:2]
		before := fmt.Sprint(whole(x), whole(y), whole(sizes), whole(extra), whole(ins))
		p.Run(ins, c.ticks, sizes)
		if after := fmt.Sprint(whole(x), whole(y), whole(sizes), whole(extra), whole(ins)); after != before {
			t.Errorf("P2: handed in was %s, it is %s now", before, after)
		}
	}
}

func TestArgumentsOfRunsAreNotKept(t *testing.T) {
	p := compile(t, text(keeping))
	x, y, sizes := upTo(6), []int{4, 5, 6}, []int{1, 1}
	ins := [][]int{x, y}
	got, _ := p.Run(ins, 6, sizes)
	want := fmt.Sprint(got)
	for _, list := range [][]int{x, y, sizes} {
		for k := range list {
			list[k] = 55
		}
	}
	ins[0], ins[1] = nil, nil
	if fmt.Sprint(got) != want {
		t.Errorf("P2: the result was %s, it is %v now", want, got)
	}
	again, e := p.Run([][]int{upTo(6), {4, 5, 6}}, 6, []int{1, 1})
	if fmt.Sprint(again) != want || e != api.OK {
		t.Errorf("P2: the result was %s, another run's is %v", want, again)
	}
}

func TestResultsOfRunsAreTheCallers(t *testing.T) {
	p := compile(t, text(keeping))
	tale := tellAll(p, []string{"x", "y", "b", "c", "n", "m", "w"})
	ins, sizes := [][]int{upTo(6), {4, 5, 6}}, []int{1, 1}
	const want = "{1 6 [[1 2 3 4 5 6] [3 4 6 9 13] [1 2 3 4 5 6] [4 5 6] [4 5 6] [1 2 4 5] [1 2 3 4 5] [1 2 3 4 5 6]] [1 1]}"
	first, e := p.Run(ins, 6, sizes)
	if fmt.Sprint(first) != want || e != api.OK {
		t.Fatalf("P13: %v, %d, want %s", first, e, want)
	}
	for range 3 {
		next, _ := p.Run(ins, 6, sizes)
		spoil(first)
		if fmt.Sprint(next) != want {
			t.Fatalf("P2: to write into a result made of another %v", next)
		}
		if fmt.Sprint(ins, sizes) != "[[1 2 3 4 5 6] [4 5 6]] [1 1]" {
			t.Fatalf("P2: to write into a result made of the arguments %v, %v", ins, sizes)
		}
		first = next
	}
	if now := tellAll(p, []string{"x", "y", "b", "c", "n", "m", "w"}); now != tale {
		t.Errorf("P2: the program told %s, behind its runs %s", tale, now)
	}
}

// Each list of a result is written into, with its spare room, and all others stay as they were.
func TestListsOfAResultAreApart(t *testing.T) {
	p := compile(t, text(keeping))
	for _, ticks := range []int{1, 2, 3, 5, 6} {
		for k := range 9 {
			got, _ := p.Run([][]int{upTo(6), {4, 5, 6}}, ticks, nil)
			want, _ := p.Run([][]int{upTo(6), {4, 5, 6}}, ticks, nil)
			lists := append(append([][]int{}, got.Outs...), got.Most)
			others := append(append([][]int{}, want.Outs...), want.Most)
			for n := range whole(lists[k]) {
				whole(lists[k])[n] = 99
			}
			_ = append(lists[k], 98)
			for n := range lists {
				if n != k && !reflect.DeepEqual(lists[n], others[n]) {
					t.Errorf("P2: to write into list %d made of list %d %v, want %v", k, n, lists[n], others[n])
				}
			}
		}
	}
}

func TestEachRunBeginsAnew(t *testing.T) {
	texts := []string{keeping, "one = const 1 (1)/n = fby 0 m/m = add n one/out n", "in x (1)/y = buffer x 000(1)/s = add y p/p = fby 0 s/out s/out y"}
	type call struct {
		p     *streams.Program
		ins   [][]int
		ticks int
		sizes []int
		want  string
	}
	var calls []call
	for _, lines := range texts {
		p := compile(t, text(lines))
		for _, ticks := range []int{0, 1, 5, 9, 4096, 4097, -1} {
			for _, many := range []int{0, 3, 5000} {
				for _, size := range []int{0, 1, 3, -1} {
					c := call{p: p, ticks: ticks}
					for range p.Ins() {
						c.ins = append(c.ins, upTo(many))
					}
					for range p.Buffers() {
						c.sizes = append(c.sizes, size)
					}
					got, e := p.Run(c.ins, c.ticks, c.sizes)
					c.want = fmt.Sprint(got, e)
					calls = append(calls, c)
				}
			}
		}
	}
	// The other way round, and among programs that were compiled anew.
	for k := len(calls) - 1; k >= 0; k-- {
		c := calls[k]
		got, e := c.p.Run(c.ins, c.ticks, c.sizes)
		if now := fmt.Sprint(got, e); now != c.want {
			t.Fatalf("P2: %.200s, then %.200s", c.want, now)
		}
		compile(t, text(texts[k%len(texts)]))
	}
}
