package streams_test

import (
	"fmt"
	"maps"
	"math/rand"
	"slices"
	"strings"
	"testing"

	"streams/api"
	"streams/streams"
)

func pick(r *rand.Rand, from string) string {
	all := strings.Fields(from)
	return all[r.Intn(len(all))]
}

// The words of a program: those of the first list fit together often, those of the second soon are long.
const (
	fewWords  = "(1) (1) (1) (1) (10) (10) (01) (0) 0(1) 1(01)"
	longWords = "(1) (1) (10) (01) (100) (001) (1000000) (10000000) (00000000001) (00000001) 1(0) 000000000001(1) (110) (1100) (0011) (101101) 11(10) 0(11)"
)

// someLine makes the line of the k-th name; it uses the names of lines ahead much more often than others.
func someLine(r *rand.Rand, k, n int, words string) string {
	use := func() string {
		if k > 0 && r.Intn(25) > 0 {
			return fmt.Sprintf("n%d", r.Intn(k))
		}
		return fmt.Sprintf("n%d", r.Intn(n))
	}
	if k == 0 && r.Intn(10) > 0 {
		return "in n0 " + pick(r, words)
	}
	own := fmt.Sprintf("n%d", k)
	switch r.Intn(13) {
	case 0, 1:
		return fmt.Sprintf("in %s %s", own, pick(r, words))
	case 2:
		return fmt.Sprintf("%s = const %d %s", own, r.Intn(9)-4, pick(r, words))
	case 3, 4:
		return fmt.Sprintf("%s = %s %s %s", own, pick(r, "add sub mul div less"), use(), use())
	case 5:
		return fmt.Sprintf("%s = if %s %s %s", own, use(), use(), use())
	case 6, 7:
		// A loop: what fby uses may stand anywhere.
		return fmt.Sprintf("%s = fby %d n%d", own, r.Intn(9)-4, r.Intn(n))
	case 8, 9:
		return fmt.Sprintf("%s = when %s %s", own, use(), pick(r, words))
	case 10:
		return fmt.Sprintf("%s = merge %s %s %s", own, pick(r, words), use(), use())
	case 11:
		return fmt.Sprintf("%s = buffer %s %s", own, use(), pick(r, words))
	}
	return "out " + use()
}

// parted makes three lines that part a stream and, most of the time, join it again as it was.
func parted(r *rand.Rand, k int, words string) []string {
	from := r.Intn(k)
	w := pick(r, words)
	other, _ := streams.Not(w)
	if r.Intn(6) == 0 {
		other = pick(r, words)
	}
	return []string{
		fmt.Sprintf("n%d = when n%d %s", k, from, w),
		fmt.Sprintf("n%d = when n%d %s", k+1, from, other),
		fmt.Sprintf("n%d = merge %s n%d n%d", k+2, w, k, k+1),
	}
}

func someProgram(r *rand.Rand) string {
	words := fewWords
	if r.Intn(2) == 0 {
		words = longWords
	}
	n := 1 + r.Intn(8)
	if r.Intn(30) == 0 {
		n = 22 + r.Intn(6)
	}
	var lines []string
	for len(lines) < n {
		k := len(lines)
		if k > 0 && r.Intn(8) == 0 {
			lines = append(lines, parted(r, k, words)...)
			continue
		}
		if r.Intn(60) == 0 {
			k = r.Intn(n)
		}
		lines = append(lines, someLine(r, k, n, words))
	}
	if r.Intn(2) == 0 {
		r.Shuffle(len(lines), func(a, b int) { lines[a], lines[b] = lines[b], lines[a] })
	}
	for r.Intn(3) == 0 {
		lines = slices.Insert(lines, r.Intn(len(lines)+1), strings.Repeat(" ", r.Intn(3)))
	}
	return strings.Join(lines, "\n")
}

// spoiled changes some bytes of a text.
func spoiled(r *rand.Rand, source string) string {
	const some = "01()=-   \n\n\tainoutbdfz9?\x00\xff"
	bytes := []byte(source)
	for again := true; again; again = r.Intn(4) == 0 {
		at := r.Intn(len(bytes) + 1)
		switch c := some[r.Intn(len(some))]; {
		case at == len(bytes) || r.Intn(3) == 0:
			bytes = slices.Insert(bytes, at, c)
		case r.Intn(2) == 0:
			bytes = slices.Delete(bytes, at, at+1)
		default:
			bytes[at] = c
		}
	}
	return string(bytes)
}

// tell asks a program all that a model tells.
func tell(source string, names []string) told {
	p, f := streams.Compile(source)
	if f.E != api.OK || p == nil {
		return told{fault: f}
	}
	all := told{fault: f, ins: p.Ins(), outs: p.Outs(), buffers: p.Buffers(), clocks: map[string]string{}, sizes: map[string]int{}}
	for _, name := range names {
		if clock, e := p.Clock(name); e == api.OK {
			all.clocks[name] = clock
		}
		if size, e := p.Size(name); e == api.OK {
			all.sizes[name] = size
		}
	}
	return all
}

func sameTold(a, b told) bool {
	return a.fault == b.fault && slices.Equal(a.ins, b.ins) && slices.Equal(a.outs, b.outs) && slices.Equal(a.buffers, b.buffers) && maps.Equal(a.clocks, b.clocks) && maps.Equal(a.sizes, b.sizes)
}

func checkTold(t *testing.T, source string) told {
	t.Helper()
	want := modelCompile(source)
	got := tell(source, strings.FieldsFunc(source+" in out n0 n99", func(c rune) bool { return c == ' ' || c == '\n' }))
	if !sameTold(got, want) {
		t.Fatalf("P6 to P10: %q: %+v, want %+v", source, got, want)
	}
	return got
}

func TestSomePrograms(t *testing.T) {
	r := rand.New(rand.NewSource(6))
	count := map[api.Errno]int{}
	sized := 0
	for range 12000 {
		got := checkTold(t, someProgram(r))
		count[got.fault.E]++
		sized += len(got.buffers)
	}
	for _, e := range []api.Errno{api.OK, api.ErrMany, api.ErrTwice, api.ErrUnknown, api.ErrCause, api.ErrLong, api.ErrClock} {
		if count[e] < 60 {
			t.Errorf("of 12000 programs %d have the fault %d: they try too little", count[e], e)
		}
	}
	if sized < 60 {
		t.Errorf("12000 programs have %d buffers: they try too little", sized)
	}
}

func TestSpoiledPrograms(t *testing.T) {
	r := rand.New(rand.NewSource(7))
	count := map[api.Errno]int{}
	for range 6000 {
		source := someProgram(r)
		for r.Intn(8) > 0 && modelCompile(source).fault.E != api.OK {
			source = someProgram(r)
		}
		count[checkTold(t, spoiled(r, source)).fault.E]++
	}
	if count[api.ErrSyntax] < 1000 || count[api.OK] < 300 {
		t.Errorf("of 6000 texts %d are wrong and %d right: they try too little", count[api.ErrSyntax], count[api.OK])
	}
}

// Texts of pieces in any order: an answer that does not come, or a panic, ends the test.
func TestCompileEndsAtAllTexts(t *testing.T) {
	r := rand.New(rand.NewSource(8))
	pieces := []string{"in", "out", "=", "x", "y", "z", "1", "-2", "(1)", "(10)", "0(1)", "add", "if", "fby", "when", "merge", "buffer", "const", "\n", "\n", "\n", "", "\t", "-", "()", "("}
	for range 20000 {
		source := ""
		for range r.Intn(14) {
			source += pieces[r.Intn(len(pieces))] + " "
		}
		checkTold(t, source)
	}
	for range 2000 {
		bytes := make([]byte, r.Intn(900))
		r.Read(bytes)
		checkTold(t, string(bytes))
	}
}

func TestProgramsHangOnNoCallAhead(t *testing.T) {
	r := rand.New(rand.NewSource(9))
	names := []string{"n0", "n1", "n2", "n3", "n4", "n5"}
	var sources, tales []string
	var programs []*streams.Program
	for len(programs) < 100 {
		source := someProgram(r)
		if p, f := streams.Compile(source); f.E == api.OK {
			sources = append(sources, source)
			programs = append(programs, p)
			tales = append(tales, tellAll(p, names))
		}
	}
	for _, k := range r.Perm(len(programs)) {
		again, _ := streams.Compile(sources[k])
		if a, b := tellAll(programs[k], names), tellAll(again, names); a != tales[k] || b != tales[k] {
			t.Errorf("P2: %q told %s, then %s and anew %s", sources[k], tales[k], a, b)
		}
	}
}
