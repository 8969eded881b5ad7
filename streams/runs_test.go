package streams_test

import (
	"fmt"
	"math/rand"
	"reflect"
	"strings"
	"testing"

	"streams/api"
	"streams/streams"
)

// upTo has the numbers from 1 to n.
func upTo(n int) []int {
	list := make([]int, n)
	for k := range list {
		list[k] = k + 1
	}
	return list
}

// checkRun writes the result down, so that a list that is empty and one that is nil are alike.
func checkRun(t *testing.T, promise, lines string, ins [][]int, ticks int, sizes []int, want string) {
	t.Helper()
	p := compile(t, text(lines))
	got, e := p.Run(ins, ticks, sizes)
	if fmt.Sprint(got) != want || e != api.OK {
		t.Errorf("%s: %s with %v, %d, %v: %.300v, %d, want %s", promise, lines, ins, ticks, sizes, got, e, want)
	}
}

func checkRefused(t *testing.T, p *streams.Program, ins [][]int, ticks int, sizes []int, want api.Errno) {
	t.Helper()
	got, e := p.Run(ins, ticks, sizes)
	if e != want || e != api.OK && !reflect.DeepEqual(got, api.Result{}) {
		t.Errorf("P12: %d lists, %d ticks, sizes %v: %.300v, %d, want %d", len(ins), ticks, sizes, got, e, want)
	}
}

func TestRunsOfExamples(t *testing.T) {
	held := "in x (10)/one = const 1 (01)/y = buffer x (01)/s = add y one/out s"
	three := [][]int{{5, 6, 7}}
	checkRun(t, "P13", held, three, 5, nil, "{1 5 [[6 7]] [1]}")
	checkRun(t, "P13", held, three, 10, nil, "{2 6 [[6 7 8]] [1]}")
	checkRun(t, "P13", held, three, 10, []int{0}, "{3 0 [[]] [0]}")
	checkRun(t, "P11", "in x (1)/a = when x (10)/b = when x (01)/d = add a a/y = merge (10) d b/out y", [][]int{upTo(5)}, 5, nil, "{1 5 [[2 2 6 4 10]] []}")
	checkRun(t, "P11", "one = const 1 (1)/n = fby 0 m/m = add n one/out n", nil, 4, nil, "{1 4 [[0 1 2 3]] []}")
	checkRun(t, "P11", "x = const 5 (10)/y = fby 7 x/out y", nil, 5, nil, "{1 5 [[7 5 5]] []}")
}

func TestNumbersOfEachForm(t *testing.T) {
	two := [][]int{{7, -7, 0, 4}, {2, 2, 5, 4}}
	for _, c := range []struct {
		line, want string
	}{
		{"z = add x y", "[9 -5 5 8]"}, {"z = sub x y", "[5 -9 -5 0]"}, {"z = sub y x", "[-5 9 5 0]"}, {"z = mul x y", "[14 -14 0 16]"}, {"z = div x y", "[3 -3 0 1]"}, {"z = div y x", "[0 0 0 1]"}, {"z = less x y", "[0 1 1 0]"}, {"z = less y x", "[1 0 0 0]"},
		{"z = if x y x", "[2 2 0 4]"}, {"z = if x x y", "[7 -7 5 4]"}, {"z = if y x x", "[7 -7 0 4]"}, {"z = add x x", "[14 -14 0 8]"},
		{"z = const -3 (1)", "[-3 -3 -3 -3]"}, {"z = const 9999999999 (01)", "[9999999999 9999999999]"}, {"z = const -9999999999 0(001)", "[-9999999999]"}, {"z = const 0070 1(0)", "[70]"}, {"z = const 5 (0)", "[]"}, {"z = const -0 001(1)", "[0 0]"},
		{"z = fby 8 x", "[8 7 -7 0]"}, {"z = fby -9999999999 y", "[-9999999999 2 2 5]"}, {"z = fby 9999999999 z2/z2 = fby 1 x", "[9999999999 1 7 -7]"},
		{"z = when x (1)", "[7 -7 0 4]"}, {"z = when x (0)", "[]"}, {"z = when x (10)", "[7 0]"}, {"z = when x (01)", "[-7 4]"}, {"z = when x 001(0)", "[0]"}, {"z = when x 10(01)", "[7 4]"}, {"z = when x 01(10)", "[-7 0]"}, {"z = when x 0(1)", "[-7 0 4]"},
		{"z = merge (1) x e/e = const 9 (0)", "[7 -7 0 4]"}, {"z = merge (0) e x/e = const 9 (0)", "[7 -7 0 4]"}, {"z = merge 1(0) a b/a = when x 1(0)/b = when y 0(1)", "[7 2 5 4]"}, {"z = merge 01(10) a b/a = when x 01(10)/b = when y 10(01)", "[2 -7 0 4]"},
	} {
		checkRun(t, "P11", "in x (1)/in y (1)/"+c.line+"/out z", two, 4, nil, "{1 4 ["+c.want+"] []}")
	}
	for _, c := range [][2]string{
		{"z = buffer x (1)", "[[7 -7 0 4]] [0]"}, {"z = buffer x 0(1)", "[[7 -7 0]] [1]"}, {"z = buffer x 000(1)", "[[7]] [3]"}, {"z = buffer x 0000(1)", "[[]] [4]"},
		{"z = buffer v (0)/v = when x 01(0)", "[[]] [1]"}, {"z = buffer v 0001(0)/v = when x 01(0)", "[[-7]] [1]"}, {"z = buffer v (01)/v = when y (10)", "[[2 5]] [1]"}, {"z = buffer v 0(1)/v = buffer y 0(1)", "[[2 2 5]] [0 1]"},
	} {
		checkRun(t, "P11", "in x (1)/in y (1)/"+c[0]+"/out z", two, 4, nil, "{1 4 "+c[1]+"}")
	}
}

// Every operation on every two numbers of the ends of what a number may be.
func TestNumbersGoRound(t *testing.T) {
	some := []int{least, least + 1, -1 << 62, -1<<62 - 1, -1 << 32, -10, -7, -3, -2, -1, 0, 1, 2, 3, 7, 10, 1 << 31, 1 << 32, 3037000500, 1 << 62, 1<<62 + 1, greatest - 1, greatest}
	var x, y []int
	for _, a := range some {
		for _, b := range some {
			x, y = append(x, a), append(y, b)
		}
	}
	p := compile(t, text("in x (1)/in y (1)/a = add x y/s = sub x y/m = mul x y/d = div x y/l = less x y/i = if x y a/out a/out s/out m/out d/out l/out i"))
	got, e := p.Run([][]int{x, y}, len(x), nil)
	if e != api.OK || got.End != api.Done || len(got.Outs) != 6 {
		t.Fatalf("P11: %d, %d", got.End, e)
	}
	for n := range x {
		want := []int{modelReckon("add", x[n], y[n]), modelReckon("sub", x[n], y[n]), modelReckon("mul", x[n], y[n]), modelReckon("div", x[n], y[n]), modelReckon("less", x[n], y[n]), y[n]}
		if x[n] == 0 {
			want[5] = want[0]
		}
		for k, list := range got.Outs {
			if list[n] != want[k] {
				t.Errorf("P11: operation %d on %d and %d: %d, want %d", k, x[n], y[n], list[n], want[k])
			}
		}
	}
	want := fmt.Sprintf("{1 4 [[%d 0 0 %d] [%d %d 0 %d]] []}", least, greatest, greatest, least, least)
	checkRun(t, "P11", "in x (1)/in y (1)/d = div x y/s = add x y/out d/out s", [][]int{{least, least, 0, greatest}, {-1, 0, 0, 1}}, 4, nil, want)
}

// The lines of a loop, and of all else, may stand in any order.
func TestLinesInAnyOrder(t *testing.T) {
	for _, c := range []struct {
		lines string
		ins   [][]int
		want  string
	}{
		{"one = const 1 (1)/n = fby 0 m/m = add n one/out n", nil, "{1 6 [[0 1 2 3 4 5]] []}"},
		{"one = const 1 (1)/n = fby 0 m/m = add n one/k = add m n/l = mul k k/j = sub l m/out j", nil, "{1 6 [[0 7 22 45 76 115]] []}"},
		{"a = fby 1 b/b = fby 1 c/z = const 0 (01)/d = add b z/c = add a d/out d", nil, "{1 6 [[1 2 3]] []}"},
		{"in x (1)/s = add x p/p = fby 0 s/out s", [][]int{upTo(9)}, "{1 6 [[1 3 6 10 15 21]] []}"},
		{"a = buffer b (1)/b = fby 4 a/out a", nil, "{1 6 [[4 4 4 4 4 4]] [0]}"},
		{"a = buffer b (1)/b = fby 0 c/c = add a one/one = const 1 (1)/out a", nil, "{1 6 [[0 1 2 3 4 5]] [0]}"},
		// A loop through a buffer that holds a number from tick to tick.
		{"b = fby 0 d/a = buffer b 0(1)/d = merge 1(0) k a/k = const 5 1(0)/out d", nil, "{1 6 [[5 0 5 0 5 0]] [1]}"},
		// A loop through when and merge: every second number is twice the one ahead.
		{"p = fby 3 q/q = add m z/z = const 0 (1)/w = when p (10)/v = when p (01)/d = add v v/m = merge (10) w d/out m", nil, "{1 6 [[3 6 6 12 12 24]] []}"},
		{"in x (1100)/y = buffer x (0011)/z = buffer y 00(0011)/s = add z p/p = fby 0 s/out s", [][]int{upTo(9)}, "{1 6 [[1 3]] [2 2]}"},
	} {
		lines := strings.Split(c.lines, "/")
		r := rand.New(rand.NewSource(11))
		for range 40 {
			checkRun(t, "P11", strings.Join(lines, "/"), c.ins, 6, nil, c.want)
			r.Shuffle(len(lines), func(a, b int) { lines[a], lines[b] = lines[b], lines[a] })
		}
	}
}

func TestEndsOfRuns(t *testing.T) {
	pass := "in x (1)/y = buffer x (1)/out y"
	late := "in x (1)/y = buffer x 000(1)/out y"
	two := "in x (10)/in y (01)/out x/out y"
	chain := "in x (1100)/y = buffer x (0011)/z = buffer y 00(0011)/out y/out z"
	for _, c := range []struct {
		lines string
		ins   [][]int
		ticks int
		sizes []int
		want  string
	}{
		// No ticks: nothing is wanted and nothing flows over.
		{late, [][]int{nil}, 0, nil, "{1 0 [[]] [0]}"}, {late, [][]int{nil}, 0, []int{0}, "{1 0 [[]] [0]}"}, {late, [][]int{upTo(9)}, 0, []int{0}, "{1 0 [[]] [0]}"}, {"", nil, 0, nil, "{1 0 [] []}"},
		// Lists that are just long enough, one short, or longer than wanted.
		{two, [][]int{upTo(2), upTo(2)}, 4, nil, "{1 4 [[1 2] [1 2]] []}"}, {two, [][]int{upTo(2), upTo(2)}, 5, nil, "{2 4 [[1 2] [1 2]] []}"}, {two, [][]int{upTo(3), upTo(2)}, 5, nil, "{1 5 [[1 2 3] [1 2]] []}"}, {two, [][]int{upTo(3), upTo(2)}, 6, nil, "{2 5 [[1 2 3] [1 2]] []}"}, {two, [][]int{upTo(2), upTo(1)}, 4, nil, "{2 3 [[1 2] [1]] []}"}, {two, [][]int{upTo(1), upTo(2)}, 4, nil, "{2 2 [[1] [1]] []}"}, {two, [][]int{upTo(9), nil}, 4, nil, "{2 1 [[1] []] []}"}, {two, [][]int{nil, upTo(9)}, 4, nil, "{2 0 [[] []] []}"}, {two, [][]int{upTo(50), upTo(70)}, 3, nil, "{1 3 [[1 2] [1]] []}"},
		{"in x 11(0)/out x", [][]int{upTo(2)}, 4096, nil, "{1 4096 [[1 2]] []}"}, {"in x 11(0)/out x", [][]int{upTo(1)}, 4096, nil, "{2 1 [[1]] []}"}, {"in x (0)/out x", [][]int{nil}, 4096, nil, "{1 4096 [[]] []}"}, {"in x (0)/out x", [][]int{upTo(3)}, 9, nil, "{1 9 [[]] []}"}, {"in x 000(1)/out x", [][]int{nil}, 3, nil, "{1 3 [[]] []}"}, {"in x 000(1)/out x", [][]int{nil}, 4, nil, "{2 3 [[]] []}"},
		// An input that no line uses is wanted too.
		{"in x (1)/in y 00(1)/out x", [][]int{upTo(9), upTo(1)}, 9, nil, "{2 3 [[1 2 3]] []}"}, {"in x 00(1)", [][]int{{}}, 9, nil, "{2 2 [] []}"}, {"in x 00(1)/k = const 3 (1)/out k", [][]int{{}}, 9, nil, "{2 2 [[3 3]] []}"},
		// No inputs, no outputs, no lines.
		{"k = const 3 (10)", nil, 9, nil, "{1 9 [] []}"}, {"k = const 3 (10)/out k", [][]int{}, 3, []int{}, "{1 3 [[3 3]] []}"}, {"", nil, 4096, []int{}, "{1 4096 [] []}"}, {"in x (1)", [][]int{upTo(4)}, 9, nil, "{2 4 [] []}"},
		// A number that comes and goes at one tick is not held.
		{pass, [][]int{upTo(3)}, 3, []int{0}, "{1 3 [[1 2 3]] [0]}"}, {pass, [][]int{upTo(3)}, 4, []int{0}, "{2 3 [[1 2 3]] [0]}"},
		{late, [][]int{upTo(9)}, 5, []int{3}, "{1 5 [[1 2]] [3]}"}, {late, [][]int{upTo(9)}, 5, []int{2}, "{3 2 [[]] [2]}"}, {late, [][]int{upTo(9)}, 2, []int{2}, "{1 2 [[]] [2]}"}, {late, [][]int{upTo(9)}, 5, []int{1}, "{3 1 [[]] [1]}"}, {late, [][]int{upTo(9)}, 5, []int{0}, "{3 0 [[]] [0]}"}, {late, [][]int{upTo(9)}, 5, []int{1 << 20}, "{1 5 [[1 2]] [3]}"}, {late, [][]int{upTo(9)}, 2, nil, "{1 2 [[]] [2]}"},
		{chain, [][]int{upTo(20)}, 11, []int{2, 2}, "{1 11 [[1 2 3 4 5] [1 2 3 4]] [2 2]}"}, {chain, [][]int{upTo(20)}, 11, []int{2, 1}, "{3 3 [[1] []] [2 1]}"}, {chain, [][]int{upTo(20)}, 11, []int{1, 2}, "{3 1 [[] []] [1 0]}"}, {chain, [][]int{upTo(20)}, 11, []int{2, 0}, "{3 2 [[] []] [2 0]}"},
		// A buffer that no line uses flows over too; one of numbers that end does not.
		{"in x (1)/y = buffer x 00(1)", [][]int{upTo(9)}, 9, []int{1}, "{3 1 [] [1]}"}, {"in x 11(0)/y = buffer x (0)/out y", [][]int{upTo(2)}, 4096, []int{2}, "{1 4096 [[]] [2]}"}, {"k = const 1 111(0)/y = buffer k (0)/out y", nil, 9, []int{2}, "{3 2 [[]] [2]}"},
		// At one tick both would apply; at an earlier one Overflow alone.
		{late, [][]int{nil}, 5, []int{0}, "{2 0 [[]] [0]}"}, {late, [][]int{upTo(1)}, 5, []int{1}, "{2 1 [[]] [1]}"}, {late, [][]int{upTo(2)}, 5, []int{2}, "{2 2 [[]] [2]}"}, {late, [][]int{upTo(2)}, 5, []int{1}, "{3 1 [[]] [1]}"}, {late, [][]int{upTo(1)}, 5, []int{2}, "{2 1 [[]] [1]}"},
		{"k = const 1 (1)/y = buffer k 0(1)/in x (1)/out y", [][]int{nil}, 5, []int{0}, "{2 0 [[]] [0]}"}, {"k = const 1 (1)/y = buffer k 0(1)/in x 0(1)/out y", [][]int{nil}, 5, []int{0}, "{3 0 [[]] [0]}"}, {"k = const 1 (1)/y = buffer k 0(1)/in x 0(1)/out y", [][]int{nil}, 5, []int{1}, "{2 1 [[]] [1]}"},
		// The most was held long ahead of the end, or the end comes while there is less.
		{"in x 111(0)/y = buffer x 000111(0)/out y", [][]int{upTo(3)}, 20, nil, "{1 20 [[1 2 3]] [3]}"}, {"in x (1)/y = buffer x (1)/z = buffer w 0001(0)/w = when x 1(0)/out z", [][]int{upTo(7)}, 20, []int{0, 1}, "{2 7 [[1]] [0 1]}"},
		// Of a stream that reaches further no more comes out than the ticks ask for.
		{"in x (1)/y = fby 7 x/out y", [][]int{upTo(3)}, 9, nil, "{2 3 [[7 1 2]] []}"}, {"in x (1)/y = fby 7 x/z = fby 8 y/out z", [][]int{upTo(1)}, 1, nil, "{1 1 [[8]] []}"},
		{"in x (1)/out x/out x/out x", [][]int{upTo(2)}, 2, nil, "{1 2 [[1 2] [1 2] [1 2]] []}"}, {"out b/out x/out b/b = buffer x 0(1)/in x (1)", [][]int{upTo(3)}, 3, nil, "{1 3 [[1 2] [1 2 3] [1 2]] [1]}"},
	} {
		checkRun(t, "P12, P13", c.lines, c.ins, c.ticks, c.sizes, c.want)
	}
}

func TestArgumentsThatAreRefused(t *testing.T) {
	p := compile(t, text("in x (1)/in y (1)/a = buffer x 0(1)/b = buffer y 0(1)/out a"))
	two := [][]int{upTo(9), upTo(9)}
	right := []int{1, 1}
	for _, ins := range [][][]int{nil, {}, {upTo(9)}, {nil}, {upTo(9), upTo(9), upTo(9)}, {nil, nil, nil}, make([][]int, 1000)} {
		for _, ticks := range []int{0, 5, 4096, -1, 4097, least, greatest} {
			for _, sizes := range [][]int{nil, {}, right, {1}, {1, -1}, {1, 1, 1}} {
				checkRefused(t, p, ins, ticks, sizes, api.ErrIns)
			}
		}
	}
	for _, ticks := range []int{-1, -2, -4096, least, least + 1, 4097, 4098, 1 << 20, 1 << 32, 1<<32 + 1, 1 << 62, greatest} {
		for _, sizes := range [][]int{nil, {}, right, {1}, {1, -1}, {1, 1, 1}} {
			checkRefused(t, p, two, ticks, sizes, api.ErrTicks)
			checkRefused(t, p, [][]int{nil, nil}, ticks, sizes, api.ErrTicks)
		}
	}
	for _, sizes := range [][]int{{}, make([]int, 0, 9), {1}, {-1}, {1, 1, 1}, {-1, 1}, {1, -1}, {least, 1}, {1, least}, {1<<20 + 1, 1}, {1, 1<<20 + 1}, {greatest, 1}, {1, greatest}, {1 << 32, 1}, make([]int, 1000)} {
		for _, ticks := range []int{0, 1, 5, 4096} {
			checkRefused(t, p, two, ticks, sizes, api.ErrSizes)
			checkRefused(t, p, [][]int{nil, nil}, ticks, sizes, api.ErrSizes)
		}
	}
	for _, sizes := range [][]int{nil, {0, 0}, {1, 1}, {1 << 20, 0}, {0, 1 << 20}, {1 << 20, 1 << 20}} {
		for _, ticks := range []int{0, 1, 5, 4095, 4096} {
			checkRefused(t, p, two, ticks, sizes, api.OK)
		}
	}
	none := compile(t, "")
	checkRefused(t, none, nil, 3, nil, api.OK)
	checkRefused(t, none, [][]int{}, 3, []int{}, api.OK)
	checkRefused(t, none, [][]int{nil}, 3, nil, api.ErrIns)
	checkRefused(t, none, nil, 3, []int{0}, api.ErrSizes)
	checkRefused(t, none, nil, -1, []int{0}, api.ErrTicks)
	// An output is no input, and neither it nor an input is a buffer.
	wide := compile(t, text("in x (1)/out x/out x/out x"))
	checkRefused(t, wide, [][]int{nil}, 3, []int{}, api.OK)
	checkRefused(t, wide, [][]int{nil}, 3, []int{1}, api.ErrSizes)
	checkRefused(t, wide, [][]int{nil, nil, nil}, 3, nil, api.ErrIns)
}

func TestLongestRuns(t *testing.T) {
	p := compile(t, text("one = const 1 (1)/n = fby 0 m/m = add n one/in x (1)/b = buffer x 000000000000(1)/out n/out b"))
	for _, many := range []int{4095, 4096, 4097} {
		got, e := p.Run([][]int{upTo(many)}, 4096, []int{12})
		end := api.Done
		if many < 4096 {
			end = api.Wanting
		}
		ticks := min(many, 4096)
		if e != api.OK || got.End != end || got.Ticks != ticks || len(got.Outs[0]) != ticks || len(got.Outs[1]) != ticks-12 || got.Most[0] != 12 {
			t.Fatalf("P12, P13: %d numbers: %d, %d, %d", many, got.End, got.Ticks, e)
		}
		for k, number := range got.Outs[0] {
			if number != k {
				t.Fatalf("P11: number %d is %d", k, number)
			}
		}
		for k, number := range got.Outs[1] {
			if number != k+1 {
				t.Fatalf("P11: number %d of the buffer is %d", k, number)
			}
		}
	}
	// A program of as many lines as may be, in a loop through all of them, that stand the wrong way round.
	lines := "out a0/one = const 1 (1)"
	for k := range 21 {
		lines += fmt.Sprintf("/a%d = add a%d one", k, k+1)
	}
	p = compile(t, text(lines+"/a21 = fby 0 a0"))
	got, e := p.Run(nil, 4096, nil)
	if e != api.OK || got.End != api.Done || len(got.Outs[0]) != 4096 {
		t.Fatalf("P12: %d, %d", got.End, e)
	}
	for k, number := range got.Outs[0] {
		if number != 21*(k+1) {
			t.Fatalf("P11: number %d is %d", k, number)
		}
	}
}

// A clock that was found may be longer than a word of the text.
func TestRunsOnLongClocks(t *testing.T) {
	wide := "(" + zeros(7) + "1)"
	checkRun(t, "P11", "in x (1)/a = when x "+wide+"/b = when a "+wide+"/c = when x "+zeros(12)+"(1)/d = when c "+zeros(12)+"(1000)/out b/out d", [][]int{upTo(128)}, 128, nil, "{1 128 [[64 128] "+fmt.Sprint(every(25, 128, 4))+"] []}")
}

// No clock can have more ones ahead of its rounds than MaxLead, so no buffer can hold more than this one does.
func TestTheFullestBuffer(t *testing.T) {
	zeros, twelve := zeros(12), strings.Repeat("1", 12)
	lines := "in d0 (1)"
	for k := range 5 {
		lines += fmt.Sprintf("/d%d = when d%d %s(1)/e%d = when d%d %s(0)", k+1, k, zeros, k, k, twelve)
	}
	lines += "/m5 = when d5 1111(0)"
	for k := 4; k >= 0; k-- {
		lines += fmt.Sprintf("/m%d = merge %s(0) e%d m%d", k, twelve, k, k+1)
	}
	lines += "/y = buffer m0 (0)/out m0/out y"
	numbers := upTo(100)
	all := fmt.Sprint(numbers[:64])
	checkRun(t, "P12", lines, [][]int{numbers}, 100, nil, "{1 100 ["+all+" []] [64]}")
	checkRun(t, "P12", lines, [][]int{numbers}, 100, []int{64}, "{1 100 ["+all+" []] [64]}")
	checkRun(t, "P12", lines, [][]int{numbers}, 100, []int{63}, "{3 63 ["+fmt.Sprint(numbers[:63])+" []] [63]}")
	checkRun(t, "P12", lines, [][]int{numbers[:64]}, 100, []int{64}, "{2 64 ["+all+" []] [64]}")
}

func every(from, to, by int) []int {
	var list []int
	for n := from; n <= to; n += by {
		list = append(list, n)
	}
	return list
}
