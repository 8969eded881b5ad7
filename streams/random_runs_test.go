package streams_test

import (
	"fmt"
	"math/rand"
	"reflect"
	"slices"
	"strings"
	"testing"

	"streams/api"
	"streams/streams"
)

// The words of programs that are run: many adapt to each other, many have a first part.
const runWords = "(1) (1) 0(1) 1(1) 000(1) 110(1) (10) (10) (01) 1(01) 1(10) 00(10) (110) (011) 0(101) 11(110) (1100) (0011) (0101) (100) (001) 1(0) 011(0) 00011(0) (0) (11010) 101(00110)"

// someGroup makes lines that may go together with those ahead, of which the names are told.
func someGroup(r *rand.Rand, names []string, k int) []string {
	use := func() string { return names[r.Intn(len(names))] }
	own := func(n int) string { return fmt.Sprintf("n%d", k+n) }
	op := pick(r, "add sub mul div less")
	w := pick(r, runWords)
	n := r.Intn(9) - 4
	switch r.Intn(12) {
	case 0:
		return []string{fmt.Sprintf("in %s %s", own(0), w)}
	case 1:
		return []string{fmt.Sprintf("%s = const %d %s", own(0), n, w)}
	case 2:
		return []string{fmt.Sprintf("%s = %s %s %s", own(0), op, use(), use())}
	case 3:
		return []string{fmt.Sprintf("%s = if %s %s %s", own(0), use(), use(), use())}
	case 4:
		return []string{fmt.Sprintf("%s = fby %d %s", own(0), n, use())}
	case 5:
		return []string{fmt.Sprintf("%s = when %s %s", own(0), use(), w)}
	case 6, 7:
		return []string{fmt.Sprintf("%s = buffer %s %s", own(0), use(), w)}
	case 8:
		return []string{fmt.Sprintf("%s = merge %s %s %s", own(0), w, use(), use())}
	case 9:
		return []string{fmt.Sprintf("%s = fby %d %s", own(0), n, own(1)), fmt.Sprintf("%s = %s %s %s", own(1), op, own(0), use())}
	case 10:
		// A loop through a buffer, that gets its first number from elsewhere.
		return []string{fmt.Sprintf("%s = fby %d %s", own(0), n, own(2)), fmt.Sprintf("%s = buffer %s 0(1)", own(1), own(0)), fmt.Sprintf("%s = merge 1(0) %s %s", own(2), own(3), own(1)), fmt.Sprintf("%s = const %d 1(0)", own(3), n+9)}
	}
	from := use()
	other, _ := streams.Not(w)
	return []string{fmt.Sprintf("%s = when %s %s", own(0), from, w), fmt.Sprintf("%s = when %s %s", own(1), from, other), fmt.Sprintf("%s = %s %s %s", own(2), op, own(0), own(0)), fmt.Sprintf("%s = merge %s %s %s", own(3), w, own(2), own(1))}
}

// someRunnable makes a program group by group, and lets those fall that would spoil it.
func someRunnable(r *rand.Rand) (string, *streams.Program) {
	lines, names := []string{"in n0 " + pick(r, "(1) (1) (10) 1(10) 011(10)")}, []string{"n0"}
	k, want := 1, 2+r.Intn(18)
	for range 300 {
		group := someGroup(r, names, k)
		if len(lines)+len(group) > want {
			continue
		}
		if _, f := streams.Compile(strings.Join(append(slices.Clone(lines), group...), "\n")); f.E != api.OK {
			continue
		}
		lines = append(lines, group...)
		for n := range group {
			names = append(names, fmt.Sprintf("n%d", k+n))
		}
		k += len(group)
	}
	for range 1 + r.Intn(24-len(lines)) {
		lines = append(lines, "out "+names[r.Intn(len(names))])
	}
	r.Shuffle(len(lines), func(a, b int) { lines[a], lines[b] = lines[b], lines[a] })
	source := strings.Join(lines, "\n")
	p, f := streams.Compile(source)
	if f.E != api.OK {
		return someRunnable(r)
	}
	return source, p
}

func someNumber(r *rand.Rand) int {
	switch r.Intn(6) {
	case 0:
		return []int{least, greatest, -1, 0, 1, 1 << 62}[r.Intn(6)]
	case 1:
		return int(r.Uint64())
	}
	return r.Intn(9) - 4
}

// someLists are about as long as so many ticks want them; now and then one is short.
func someLists(r *rand.Rand, p *streams.Program, ticks int) [][]int {
	var ins [][]int
	for _, name := range p.Ins() {
		clock, _ := p.Clock(name)
		many := ones(spell(clock, ticks), ticks) + r.Intn(3)
		if r.Intn(8) == 0 {
			many = r.Intn(many + 1)
		}
		list := make([]int, many)
		for k := range list {
			list[k] = someNumber(r)
		}
		ins = append(ins, list)
	}
	return ins
}

func someSizes(r *rand.Rand, p *streams.Program) []int {
	if r.Intn(3) == 0 {
		return nil
	}
	sizes := []int{}
	for _, name := range p.Buffers() {
		size, _ := p.Size(name)
		if r.Intn(2) == 0 {
			size = r.Intn(size + 2)
		}
		if r.Intn(9) == 0 {
			size = api.MaxSize
		}
		sizes = append(sizes, size)
	}
	return sizes
}

// likeResult takes empty lists and nil for the same.
func likeResult(a, b api.Result) bool {
	return a.End == b.End && a.Ticks == b.Ticks && slices.Equal(a.Most, b.Most) && slices.EqualFunc(a.Outs, b.Outs, slices.Equal)
}

func TestSomeRuns(t *testing.T) {
	r := rand.New(rand.NewSource(12))
	ends := make([]int, 4)
	kinds := map[string]int{}
	for range 1500 {
		source, p := someRunnable(r)
		for _, piece := range strings.Fields(source) {
			kinds[piece]++
		}
		for range 4 {
			ticks := r.Intn(60)
			ins, sizes := someLists(r, p, ticks), someSizes(r, p)
			got, e := p.Run(ins, ticks, sizes)
			want, f := modelRun(source, ins, ticks, sizes)
			if !likeResult(got, want) || e != f {
				t.Fatalf("P11 to P13: %q with %v, %d, %v: %+v, %d, want %+v, %d", source, ins, ticks, sizes, got, e, want, f)
			}
			ends[got.End]++
		}
	}
	for end, many := range ends {
		if end > 0 && many < 300 {
			t.Errorf("of 6000 runs %d have the end %d: they try too little", many, end)
		}
	}
	for _, op := range strings.Fields("const add sub mul div less if fby when merge buffer") {
		if kinds[op] < 300 {
			t.Errorf("1500 programs have %d times %s: they try too little", kinds[op], op)
		}
	}
}

// These programs are made line by line, with less care: they have other forms than those above.
func TestRunsOfSomePrograms(t *testing.T) {
	r := rand.New(rand.NewSource(13))
	for ran := 0; ran < 600; {
		source := someProgram(r)
		p, f := streams.Compile(source)
		if f.E != api.OK {
			continue
		}
		ran++
		ticks := r.Intn(100)
		ins, sizes := someLists(r, p, ticks), someSizes(r, p)
		got, e := p.Run(ins, ticks, sizes)
		want, f2 := modelRun(source, ins, ticks, sizes)
		if !likeResult(got, want) || e != f2 {
			t.Fatalf("P11 to P13: %q with %v, %d, %v: %+v, %d, want %+v, %d", source, ins, ticks, sizes, got, e, want, f2)
		}
	}
}

// Arguments without sense: an answer that does not come, or a panic, ends the test.
func TestRunsEndAtAllArguments(t *testing.T) {
	r := rand.New(rand.NewSource(14))
	count := map[api.Errno]int{}
	for range 300 {
		source, p := someRunnable(r)
		for range 20 {
			ticks := []int{0, 1, 30, 50, -1, 4097, least, greatest}[r.Intn(8)]
			ins, sizes := someLists(r, p, 30), someSizes(r, p)
			if r.Intn(6) == 0 {
				ins = make([][]int, r.Intn(4))
			}
			for r.Intn(3) == 0 {
				sizes = append(sizes, []int{0, 1, -1, 1 << 20, 1<<20 + 1, least, greatest}[r.Intn(7)])
			}
			if len(sizes) > 0 && r.Intn(3) == 0 {
				sizes = sizes[:r.Intn(len(sizes))]
			}
			got, e := p.Run(ins, ticks, sizes)
			want, f := modelRun(source, ins, ticks, sizes)
			if !likeResult(got, want) || e != f || e != api.OK && !reflect.DeepEqual(got, api.Result{}) {
				t.Fatalf("P12: %q with %v, %d, %v: %+v, %d, want %+v, %d", source, ins, ticks, sizes, got, e, want, f)
			}
			count[e]++
		}
	}
	for _, e := range []api.Errno{api.OK, api.ErrIns, api.ErrTicks, api.ErrSizes} {
		if count[e] < 300 {
			t.Errorf("of 6000 calls %d answer %d: they try too little", count[e], e)
		}
	}
}

// Sizes that a program tells are enough for every run, and one less is not, if the run is long enough.
func TestSizesThatAreTold(t *testing.T) {
	r := rand.New(rand.NewSource(15))
	held := 0
	for range 300 {
		source, p := someRunnable(r)
		var ins [][]int
		for range p.Ins() {
			ins = append(ins, upTo(1500))
		}
		sizes := []int{}
		for _, name := range p.Buffers() {
			size, _ := p.Size(name)
			sizes = append(sizes, size)
		}
		got, e := p.Run(ins, 1500, sizes)
		if e != api.OK || got.End != api.Done || !slices.Equal(got.Most, sizes) {
			t.Fatalf("P10, P12: %q with sizes %v: %d, %v, %d", source, sizes, got.End, got.Most, e)
		}
		for k := range sizes {
			if sizes[k] == 0 {
				continue
			}
			held++
			sizes[k]--
			if got, e := p.Run(ins, 1500, sizes); e != api.OK || got.End != api.Overflow || got.Most[k] != sizes[k] {
				t.Fatalf("P12: %q with sizes %v: %d, %d", source, sizes, got.End, e)
			}
			sizes[k]++
		}
	}
	if held < 100 {
		t.Errorf("300 programs have %d buffers that hold some: they try too little", held)
	}
}
