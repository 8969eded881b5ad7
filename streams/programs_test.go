package streams_test

import (
	"fmt"
	"slices"
	"strings"
	"testing"
	"unsafe"

	"streams/api"
	"streams/streams"
)

// text makes a program of lines that are parted by slashes, as the document writes them.
func text(lines string) string { return strings.ReplaceAll(lines, "/", "\n") }

func compile(t *testing.T, source string) *streams.Program {
	t.Helper()
	p, f := streams.Compile(source)
	if f != (api.Fault{}) || p == nil {
		t.Fatalf("P6 to P9: %.900q: %v, %+v, want a program", source, p, f)
	}
	return p
}

func checkFault(t *testing.T, promise, source string, e api.Errno, line int) {
	t.Helper()
	p, f := streams.Compile(source)
	if f != (api.Fault{E: e, Line: line}) || (p == nil) != (e != api.OK) {
		t.Errorf("%s: %.900q: a program %v, %+v, want %d in line %d", promise, source, p != nil, f, e, line)
	}
}

func checkClock(t *testing.T, promise string, p *streams.Program, name, want string) {
	t.Helper()
	if got, e := p.Clock(name); got != want || e != api.OK {
		t.Errorf("%s: clock of %s: %q, %d, want %q", promise, name, got, e, want)
	}
}

// inputs has n lines that are not empty.
func inputs(n int) string {
	all := ""
	for k := range n {
		all += fmt.Sprintf("in x%d (1)\n", k)
	}
	return all
}

func TestTextsOfManyBytes(t *testing.T) {
	for _, c := range []struct {
		fill string
		e    api.Errno
		line int
	}{{" ", api.OK, 0}, {"\n", api.OK, 0}, {"?", api.ErrSyntax, 1}, {"\x00", api.ErrSyntax, 1}} {
		checkFault(t, "P6", strings.Repeat(c.fill, 800), c.e, c.line)
		for _, n := range []int{801, 802, 1600, 1 << 20} {
			checkFault(t, "P6", strings.Repeat(c.fill, n), api.ErrText, 0)
		}
	}
	full := "in x (1)\nout x"
	checkFault(t, "P6", strings.Repeat(" ", 800-len(full))+full, api.OK, 0)
	checkFault(t, "P6", full+strings.Repeat("\n", 800-len(full)), api.OK, 0)
	checkFault(t, "P6", full+strings.Repeat("\n", 801-len(full)), api.ErrText, 0)
	// Bytes are counted, not characters.
	checkFault(t, "P6", strings.Repeat("é", 401), api.ErrText, 0)
	checkFault(t, "P6", strings.Repeat("é", 400), api.ErrSyntax, 1)
	checkFault(t, "P6", inputs(60)+strings.Repeat(" ", 300), api.ErrText, 0)
}

func TestLinesAndPieces(t *testing.T) {
	for _, source := range []string{
		"", " ", "\n", "\n\n\n", " \n  \n", "in x (1)", "in x (1)\n", "\nin x (1)", " in x (1)", "in x (1) ", "in   x     (1)", "   in  x  (1)   \n  out   x  ",
		"in x (1)\n\n\nout x", "in x (1)\n   \nout x\n   ", "out x\nin x (1)", "  y  =  add  x  x\nin x (1)", "in x (1)\nout x\nout x\nout x",
	} {
		checkFault(t, "P6", source, api.OK, 0)
	}
	for _, c := range []struct {
		source string
		line   int
	}{
		{"\t", 1}, {"\r\n", 1}, {"in x (1)\r\nout x", 1}, {"in x (1)\v", 1}, {"in\tx\t(1)", 1}, {"in x (1)\n\t\nout x", 2}, {"in x (1)\x00", 1}, {"in\u00a0x (1)", 1}, {"\xef\xbb\xbfin x (1)", 1},
		{"in x (1) out x", 1}, {"in x (1);out x", 1}, {"in x\n(1)", 1}, {"in x (1)\nout\nx", 2}, {"\n\n\n?", 4}, {"\n \n\n ?\n?", 4}, {"in x (1)\n# out x", 2}, {"in x (1)\nout x\n.", 3},
		{"y =add x x\nin x (1)", 1}, {"y= add x x\nin x (1)", 1}, {"y=add x x\nin x (1)", 1}, {"in x(1)", 1}, {"inx (1)", 1},
	} {
		checkFault(t, "P6", c.source, api.ErrSyntax, c.line)
	}
}

func TestForms(t *testing.T) {
	rest := "/in a (1)/in b (1)/in c (1)"
	for _, form := range []string{
		"in x (1)", "x = const 1 (1)", "x = add a b", "x = sub a b", "x = mul a b", "x = div a b", "x = less a b", "x = if a b c", "x = fby 1 a", "x = when a (1)", "x = buffer a (1)", "out a",
	} {
		checkFault(t, "P6", text(form+rest), api.OK, 0)
		pieces := strings.Split(form, " ")
		for k := range pieces {
			without := slices.Delete(slices.Clone(pieces), k, k+1)
			checkFault(t, "P6", text(strings.Join(without, " ")+rest), api.ErrSyntax, 1)
			for _, odd := range []string{"a", "1", "-1", "(1)", "=", "in", "out", "add", "const", "?"} {
				more := slices.Insert(slices.Clone(pieces), k, odd)
				checkFault(t, "P6", text(strings.Join(more, " ")+rest), api.ErrSyntax, 1)
			}
		}
		for _, odd := range []string{"a", "1", "(1)", "=", "out"} {
			checkFault(t, "P6", text(form+" "+odd+rest), api.ErrSyntax, 1)
		}
	}
	for _, wrong := range []string{
		"x", "in", "out", "=", "x =", "= x", "x = y", "x = in a", "x = in a (1)", "x = out a", "in in (1)", "in out (1)", "out in", "out out", "in = const 1 (1)", "out = add a b", "x = add in a", "x = add a out", "x = if a b in",
		"in x 10", "in x ()", "in x 1", "in x (1", "in x 1)", "in x (2)", "in (1) x", "in x y", "in x (1) (1)", "x = foo a b", "x = Add a b", "x = adds a b", "x = ad a b", "x = + a b", "x == add a b", "x : add a b", "X = add a b",
		"x = add a 1", "x = add 1 a", "x = add a (1)", "x = if a b", "x = if 1 a b", "x = const a (1)", "x = const (1) 1", "x = const 1 1", "x = const (1)", "x = fby a 1", "x = fby a b", "x = fby 1 2", "x = fby 1 (1)",
		"x = when (1) a", "x = when a b", "x = when a 1", "x = merge a (1) b", "x = merge a b (1)", "x = merge a b c", "x = merge (1) a", "x = merge (1) a (1)", "x = buffer (1) a", "x = buffer a 1", "x = buffer a b", "out a b", "out (1)", "out 1",
		"IN x (1)", "In x (1)", "OUT a", "input x (1)", "x = neg a", "x = not a", "x = eq a b",
	} {
		checkFault(t, "P6", text(wrong+rest), api.ErrSyntax, 1)
		checkFault(t, "P6", text("/in z (1)/ "+wrong+rest), api.ErrSyntax, 3)
	}
}

// Operations are named where no name stands, so a name may be like one.
func TestNamesLikeOperations(t *testing.T) {
	names := []string{"const", "add", "sub", "mul", "div", "less", "if", "fby", "when", "merge", "buffer"}
	for _, name := range names {
		source := "in " + name + " (1)\nx = add " + name + " " + name + "\nout " + name
		if p := compile(t, source); !slices.Equal(p.Ins(), []string{name}) || !slices.Equal(p.Outs(), []string{name}) {
			t.Errorf("P6: an input with the name %s", name)
		}
		checkFault(t, "P6", name+" = "+name+" "+name, api.ErrSyntax, 1)
	}
	checkFault(t, "P6", "add = fby 0 fby\nfby = add add one\none = const 1 (1)", api.OK, 0)
	checkFault(t, "P6", "in inn (1)\nin ou (1)\nin i (1)\nin in1 (1)\nin out1 (1)\nout inn", api.OK, 0)
}

func TestNames(t *testing.T) {
	for _, name := range []string{"a", "z", "a0", "a9", "az09za", "abcdef", "z99999", "aaaaaa", "i", "ins", "o", "outs", "q2"} {
		source := "out " + name + "\nin " + name + " (1)\nx = add " + name + " " + name + "\nout " + name
		if p := compile(t, source); !slices.Equal(p.Ins(), []string{name}) || !slices.Equal(p.Outs(), []string{name, name}) {
			t.Errorf("P6: an input with the name %s", name)
		}
	}
	for _, name := range []string{
		"abcdefg", "a123456", "aaaaaaaaaaaaaaaaaaaa", "1", "1a", "0", "9z", "A", "Z", "aB", "Ab", "a_b", "_a", "a-b", "-a", "a.b", "a,", "a=", "é", "aé", "ａ", "a`", "{a", "a{", "`a", "a/", "/a", "a:", ":a", "@a", "a[", "a\x80", "\xffa", "a\x00", "in", "out",
	} {
		for _, form := range []string{"in %s (1)", "%s = const 1 (1)", "out %s", "x = add %s a", "x = add a %s", "x = if a a %s", "x = fby 0 %s", "x = when %s (1)", "x = merge (1) %s a", "x = merge (1) a %s", "x = buffer %s (1)"} {
			checkFault(t, "P6", "in a (1)\n"+fmt.Sprintf(form, name), api.ErrSyntax, 2)
		}
	}
}

func TestNumbers(t *testing.T) {
	for _, number := range []string{"0", "1", "9", "-0", "-1", "00", "007", "-007", "0000000000", "9999999999", "-9999999999", "1234567890", "-0000000001", "2147483648", "4294967296"} {
		checkFault(t, "P6", "x = const "+number+" (1)", api.OK, 0)
		checkFault(t, "P6", "in y (1)\nx = fby "+number+" y", api.OK, 0)
	}
	for _, number := range []string{
		"-", "--1", "+1", "-+1", "1-", "1-1", "12345678901", "-12345678901", "00000000000", "-00000000000", "99999999999999999999999", "1.0", "1e3", "0x1", "0b1", "1_0", "a", "1a", "a1", "/", ":", "١", "−1", "\"1\"", "1,", "()",
	} {
		checkFault(t, "P6", "x = const "+number+" (1)", api.ErrSyntax, 1)
		checkFault(t, "P6", "in y (1)\nx = fby "+number+" y", api.ErrSyntax, 2)
	}
}

func TestWordsOfPrograms(t *testing.T) {
	forms := []string{"in x %s", "x = const 1 %s", "x = when y %s", "x = buffer y %s", "x = merge %s y y"}
	for _, w := range []string{"(1)", "(0)", "1(0)", zeros(12) + "(1)", "(" + zeros(12) + ")", zeros(12) + "(" + zeros(11) + "1)"} {
		for _, form := range forms {
			if _, f := streams.Compile("in y (1)\n" + fmt.Sprintf(form, w)); f.E == api.ErrSyntax {
				t.Errorf("P6: the word %s in %s is refused", w, form)
			}
		}
		p := compile(t, "in x "+w)
		want, _ := streams.Normal(w)
		checkClock(t, "P10", p, "x", want)
	}
	for _, w := range wrong() {
		// A text that is cut into other pieces, or is too long, has other faults.
		if len(w) > 400 || strings.ContainsAny(w, " \n") || w == "" {
			continue
		}
		for _, form := range forms {
			checkFault(t, "P6", "in y (1)\n"+fmt.Sprintf(form, w), api.ErrSyntax, 2)
		}
	}
}

func TestManyLines(t *testing.T) {
	checkFault(t, "P7", inputs(24), api.OK, 0)
	checkFault(t, "P7", inputs(25), api.ErrMany, 25)
	checkFault(t, "P7", inputs(40), api.ErrMany, 25)
	checkFault(t, "P7", strings.Repeat("\n", 100)+inputs(24)+strings.Repeat(" \n", 100), api.OK, 0)
	checkFault(t, "P7", "\n"+inputs(12)+"\n  \n"+inputs(12)+"out x0", api.ErrMany, 28)
	checkFault(t, "P7", strings.ReplaceAll(inputs(25), "\n", "\n\n \n"), api.ErrMany, 73)
	checkFault(t, "P7", "in x (1)"+strings.Repeat("\nout x", 23), api.OK, 0)
	checkFault(t, "P7", "in x (1)"+strings.Repeat("\nout x", 24), api.ErrMany, 25)
}

func TestFaultsOfNames(t *testing.T) {
	for _, c := range []struct {
		source string
		e      api.Errno
		line   int
	}{
		{"in x (1)/in x (1)", api.ErrTwice, 2}, {"in x (1)/x = add x x", api.ErrTwice, 2}, {"x = const 1 (1)/in x (1)", api.ErrTwice, 2}, {"in x (1)/in y (1)//y = fby 0 x/x = fby 0 y", api.ErrTwice, 4},
		{"in y (1)/in x (1)/in x (1)/in y (1)", api.ErrTwice, 3}, {"x = add x x/x = add x x", api.ErrTwice, 2}, {"in x (1)/out x/out x/in out1 (1)", api.OK, 0}, {"in a (1)/in aa (1)/in a1 (1)", api.OK, 0},
		{"out x", api.ErrUnknown, 1}, {"x = when y (1)", api.ErrUnknown, 1}, {"in x (1)/out y", api.ErrUnknown, 2}, {"in x (1)/y = add x z", api.ErrUnknown, 2}, {"in x (1)/y = add z x", api.ErrUnknown, 2}, {"in x (1)/y = if x x z", api.ErrUnknown, 2}, {"in x (1)/y = if x z x", api.ErrUnknown, 2}, {"y = fby 0 z", api.ErrUnknown, 1}, {"in x (1)/y = merge (1) z x", api.ErrUnknown, 2}, {"in x (1)/y = merge (1) x z", api.ErrUnknown, 2}, {"y = buffer z (1)", api.ErrUnknown, 1}, {"in x (1)//y = add x xx", api.ErrUnknown, 3}, {"out x/out y/in x (1)", api.ErrUnknown, 2}, {"y = add z z/x = add q q/z = fby 0 y", api.ErrUnknown, 2},
		{"a = add a a", api.ErrCause, 1}, {"in x (1)/a = sub a x", api.ErrCause, 2}, {"in x (1)/a = mul x a", api.ErrCause, 2}, {"in x (1)/a = div x a", api.ErrCause, 2}, {"in x (1)/a = less a x", api.ErrCause, 2}, {"in x (1)/a = if a x x", api.ErrCause, 2}, {"in x (1)/a = if x a x", api.ErrCause, 2}, {"in x (1)/a = if x x a", api.ErrCause, 2}, {"a = when a (1)", api.ErrCause, 1}, {"a = merge (1) a a", api.ErrCause, 1}, {"in x (1)/a = merge (1) x a", api.ErrCause, 2}, {"a = buffer a (1)", api.ErrCause, 1},
		{"a = add b b/b = add a a", api.ErrCause, 1}, {"c = add a a/a = add b b/b = add a a", api.ErrCause, 2}, {"d = add c c/c = add a a/in x (1)/a = if x x b/b = when e (1)/e = buffer a (1)", api.ErrCause, 4}, {"out a/a = add b b/b = buffer a (1)", api.ErrCause, 2},
		{"y = add z z/z = add w w/w = when z (1)", api.ErrCause, 2}, {"in x (1)/a = add x x/b = add a a/e = add b a/f = if e b a", api.OK, 0},
		{"one = const 1 (1)/n = fby 0 m/m = add n one/out n", api.OK, 0}, {"one = const 1 (1)/m = add n one/n = fby 0 m", api.OK, 0}, {"one = const 1 (1)/m = add n one/n = fby 0 k/k = fby 1 m/j = add m k", api.OK, 0}, {"one = const 1 (1)/m = add n one/n = fby 0 m/j = add j m", api.ErrCause, 4},
		{"n = fby 0 n", api.ErrClock, 1}, {"a = fby 0 b/b = fby 0 a", api.ErrClock, 1}, {"a = buffer b (1)/b = fby 0 a", api.OK, 0},
	} {
		checkFault(t, "P7", text(c.source), c.e, c.line)
	}
}

// Each text has a fault of each promise named from some place on: the first named is told, wherever it stands.
func TestWhichFaultIsToldFirst(t *testing.T) {
	long := "in l (10000000000)/k = when l (1000000)"
	clock := "in p (10)/in q (01)/s = add p q"
	cause := "c = add c c"
	unknown := "out u"
	twice := "in w (1)/in w (1)"
	many := strings.ReplaceAll(inputs(25), "\n", "/")
	syntax := "?"
	for _, c := range []struct {
		faults []string
		e      api.Errno
		lines  []int // the line that the last has by itself
	}{
		{[]string{clock}, api.ErrClock, []int{3}},
		{[]string{clock, long}, api.ErrLong, []int{2}},
		{[]string{clock, long, cause}, api.ErrCause, []int{1}},
		{[]string{clock, long, cause, unknown}, api.ErrUnknown, []int{1}},
		{[]string{clock, long, cause, unknown, twice}, api.ErrTwice, []int{2}},
		{[]string{clock, long, cause, unknown, twice, syntax}, api.ErrSyntax, []int{1}},
	} {
		at := len(strings.Split(strings.Join(c.faults, "/"), "/")) - len(strings.Split(c.faults[len(c.faults)-1], "/"))
		checkFault(t, "P7", text(strings.Join(c.faults, "/")), c.e, at+c.lines[0])
		slices.Reverse(c.faults)
		checkFault(t, "P7", text(strings.Join(c.faults, "/")), c.e, c.lines[0])
	}
	for _, other := range []string{clock, long, cause, unknown, twice} {
		n := len(strings.Split(other, "/"))
		checkFault(t, "P7", text(many+other), api.ErrMany, 25)
		checkFault(t, "P7", text(other+"/"+many), api.ErrMany, 25)
		checkFault(t, "P7", text(many+other+"/?"), api.ErrSyntax, 25+n+1)
		checkFault(t, "P7", text("?/"+other+"/"+many), api.ErrSyntax, 1)
	}
	checkFault(t, "P7", text("?/!/"+many+"?"), api.ErrSyntax, 1)
	checkFault(t, "P1", strings.Repeat("?", 801), api.ErrText, 0)
}

func TestClocksOfEachKind(t *testing.T) {
	p := compile(t, text(`in x 1(01)/k = const 7 0(11)/b = buffer x (01)/a1 = add x f/a2 = sub x x/a3 = mul x x/a4 = div x x/a5 = less x x/i = if x x x/f = fby -3 x/w = when x (110)/v = when w (01)/h = when x 01(0)/y = when x (10)/z = when x (01)/m = merge (10) y z/n = merge 1(0) o r/o = when x 1(0)/r = when x 0(1)`))
	for _, c := range [][2]string{
		{"x", "(10)"}, {"k", "0(1)"}, {"b", "(01)"}, {"a1", "(10)"}, {"a2", "(10)"}, {"a3", "(10)"}, {"a4", "(10)"}, {"a5", "(10)"}, {"i", "(10)"}, {"f", "(10)"},
		{"w", "(101000)"}, {"v", "(001000)"}, {"h", "001(0)"}, {"y", "(1000)"}, {"z", "(0010)"}, {"m", "(10)"}, {"n", "(10)"}, {"o", "1(0)"}, {"r", "0(01)"},
	} {
		checkClock(t, "P8", p, c[0], c[1])
	}
}

// A merge has a tick wherever one of its names has one, so its clock may be another than that which its names were thinned from.
func TestClocksOfMerges(t *testing.T) {
	p := compile(t, text("in x (100)/in y (010)/z = merge (10) x y/w = merge (01) y x/s = add z w/none = merge (1) x nil/nil = const 0 (0)/in e (0)/f = merge (01) e nil"))
	for _, c := range [][2]string{{"z", "(110)"}, {"w", "(110)"}, {"s", "(110)"}, {"none", "(100)"}, {"f", "(0)"}} {
		checkClock(t, "P8", p, c[0], c[1])
	}
}

func TestClocksFoundAtALaterTimeThrough(t *testing.T) {
	p := compile(t, text("out a/a = add b b/b = when c (10)/c = fby 0 d/d = merge (10) e f/e = when g (10)/f = when g (01)/g = if h h h/h = fby 1 x/in x (110)"))
	for _, c := range [][2]string{{"a", "(100)"}, {"b", "(100)"}, {"c", "(110)"}, {"d", "(110)"}, {"e", "(100)"}, {"f", "(010)"}, {"g", "(110)"}, {"h", "(110)"}} {
		checkClock(t, "P8", p, c[0], c[1])
	}
	// A loop gets its clock from the one name that has one.
	p = compile(t, text("n = fby 0 m/m = add n k/k = add m1 one/m1 = fby 0 m/one = const 1 (01)"))
	for _, name := range []string{"n", "m", "k", "m1", "one"} {
		checkClock(t, "P8", p, name, "(01)")
	}
	// As many times through as there are lines, and one.
	source := ""
	for k := range 23 {
		source += fmt.Sprintf("a%d = fby 0 a%d\n", k, k+1)
	}
	checkClock(t, "P8", compile(t, source+"in a23 0(01)"), "a0", "0(01)")
}

// The clock of the first name that has one is taken, from left to right, at that time through.
func TestWhichClockIsTaken(t *testing.T) {
	thin := "/t = when s (100000000000)"
	for _, c := range []struct {
		source string
		e      api.Errno
		line   int
	}{
		{"in x (10)/in y (1000000)/s = add x y" + thin, api.ErrClock, 3},
		{"in x (10)/in y (1000000)/s = add y x" + thin, api.ErrLong, 4},
		{"in x (10)/in y (1000000)/s = if x y y" + thin, api.ErrClock, 3},
		{"in x (10)/in y (1000000)/s = if y x x" + thin, api.ErrLong, 4},
		// At the first time through a has none yet at the line of s, and x has one already.
		{"s = add a x/a = fby 0 y/in y (1000000)/in x (10)" + thin, api.ErrClock, 1},
		{"a = fby 0 y/s = add a x/in y (1000000)/in x (10)" + thin, api.ErrLong, 5},
		{"s = if a b x/a = fby 0 y/b = fby 0 a/in y (1000000)/in x (10)" + thin, api.ErrClock, 1},
		{"b = fby 0 x/s = if a b y/a = fby 0 y/in y (1000000)/in x (10)" + thin, api.ErrClock, 2},
		{"s = add a b/b = fby 0 x/a = fby 0 y/in y (1000000)/in x (10)" + thin, api.ErrLong, 6},
	} {
		checkFault(t, "P8", text(c.source), c.e, c.line)
	}
}

func TestLongClocks(t *testing.T) {
	wide := "(" + zeros(7) + "1)"
	full := "in x " + wide + "/a = when x " + wide
	p := compile(t, text(full+"/b = add a a/c = fby 0 b/in y "+zeros(12)+"(1)/d = when y (10)/e = when y "+zeros(12)+"(1)/out a"))
	for _, c := range [][2]string{
		{"a", "(" + zeros(63) + "1)"}, {"b", "(" + zeros(63) + "1)"}, {"c", "(" + zeros(63) + "1)"}, {"d", zeros(11) + "(01)"}, {"e", zeros(24) + "(1)"},
	} {
		checkClock(t, "P8", p, c[0], c[1])
	}
	p = compile(t, text("in x "+wide+"/a = when x "+zeros(8)+"(1)/in z (0)/b = merge (1) a z/in u (10000)/in v (00000000001)/w = when u (100000000000)"))
	checkClock(t, "P8", p, "a", zeros(64)+"("+zeros(7)+"1)")
	checkClock(t, "P8", p, "b", zeros(64)+"("+zeros(7)+"1)")
	checkClock(t, "P8", p, "w", "(1"+zeros(59)+")")
	for _, c := range []struct {
		source string
		line   int
	}{
		{full + "/b = when a (10)", 3},
		{"in x " + wide + "/a = when x 0" + zeros(8) + "(1)", 2},
		{"in x 0" + wide + "/a = when x " + zeros(8) + "(1)", 2},
		{"in x (10000000000)/in y (0100000)/z = merge (10) x y", 3},
		{"in x (10000000000)/a = when x (100000)", 2},
		{"in x (100000)/a = when x (10000000000)/out a", 2},
		{"b = add a a/a = when x (10000000000)/in x (100000)", 2},
		// The first that is found is told, and at the first time through that is the later line.
		{"a = when b (100000000000)/b = when x (1000000)/in x (1)/c = when x (100000000000)/d = when c (1000000)", 5},
		{"a = when b (100000000000)/b = when x (1000000)/in x (1)/c = when x (100000000000)/d = when c (10000)", 1},
		{"d = when c (1000000)/c = when x (100000000000)/in x (1)/b = when x (1000000)/a = when b (100000000000)", 5},
		{"d = when c (1000000)/c = fby 0 b/a = when b (1000000)/b = when x (100000000000)/in x (1)", 3},
	} {
		checkFault(t, "P8", text(c.source), api.ErrLong, c.line)
	}
}

// What is walked through to find a clock, or to compare it, may be longer than what comes out.
func TestLongWaysToClocks(t *testing.T) {
	p := compile(t, text("in x (100000000000)/a = when x (11111111111)/b = when a 0(0)/in y (00000000001)/in e (11111111111)/f = merge (1) e b/c = buffer y (00000000001)"))
	for _, c := range [][2]string{{"a", "(1" + zeros(11) + ")"}, {"b", "(0)"}, {"f", "(1)"}} {
		checkClock(t, "P8", p, c[0], c[1])
	}
	// Here the clock of z is as long as may be, so its thinning by the word is too long, and just no clock of x.
	checkFault(t, "P9", text("in x (10000)/in y (00000000001)/z = merge (100000000000) x y"), api.ErrClock, 3)
	checkFault(t, "P9", text("in x (10000)/in y (00000000001)/z = merge 000000000001(000000000001) x y"), api.ErrClock, 3)
	// Both clocks of the buffer come together again only after 64 * 11 ticks.
	wide := "(" + zeros(7) + "1)"
	checkFault(t, "P9", text("in x "+wide+"/a = when x "+wide+"/b = buffer a (00000000001)"), api.ErrClock, 3)
}

func TestWhatFits(t *testing.T) {
	for _, c := range []struct {
		source string
		e      api.Errno
		line   int
	}{
		{"in x (10)/in y (01)/s = add x y", api.ErrClock, 3}, {"in x (10)/in y (01)/s = sub y x", api.ErrClock, 3}, {"in x (10)/in y (01)/s = mul x y", api.ErrClock, 3}, {"in x (10)/in y (01)/s = div x y", api.ErrClock, 3}, {"in x (10)/in y (01)/s = less x y", api.ErrClock, 3},
		{"in x (10)/in y (01)/s = if x x y", api.ErrClock, 3}, {"in x (10)/in y (01)/s = if x y x", api.ErrClock, 3}, {"in x (10)/in y (01)/s = if y x x", api.ErrClock, 3}, {"in x (10)/in y 1(01)/s = if x y x", api.OK, 0}, {"in x (10)/in y 10(1010)/s = add x y", api.OK, 0}, {"in x 0(1)/in y (1)/s = add x y", api.ErrClock, 3},
		{"n = fby 0 n", api.ErrClock, 1}, {"in x (1)/n = add m m/m = fby 0 n", api.ErrClock, 2}, {"in x (1)/out n/m = fby 0 n/n = fby 0 m", api.ErrClock, 3}, {"in x (1)/n = fby 0 m/m = when n (10)", api.ErrClock, 2}, {"n = when m (1)/m = fby 0 n/out n", api.ErrClock, 1}, {"in x (1)/y = merge (1) x n/n = fby 0 n", api.ErrClock, 2}, {"in x (1)/y = merge (1) n x/n = fby 0 n", api.ErrClock, 2},
		// The line has a clock, but a name that it uses has none or another one.
		{"in x (1)/a = add x n/n = when m (10)/m = fby 0 n", api.ErrClock, 2}, {"in x (1)/a = add n x/n = when m (10)/m = fby 0 n", api.ErrClock, 2}, {"in x (1)/m = add n x/n = fby 0 k/k = when m (10)", api.ErrClock, 2}, {"in x (1)/k = when m (10)/n = fby 0 k/m = add n x", api.ErrClock, 4},
		{"in x (1)/a = when x (10)/b = when x (01)/y = merge (10) a b", api.OK, 0}, {"in x (1)/a = when x (10)/b = when x (01)/y = merge (10) b a", api.ErrClock, 4}, {"in x (1)/a = when x (10)/b = when x (01)/y = merge (01) a b", api.ErrClock, 4}, {"in x (1)/a = when x (10)/b = when x (10)/y = merge (10) a b", api.ErrClock, 4}, {"in x (1)/y = merge (1) x x", api.ErrClock, 2}, {"in x (0)/y = merge (1) x x", api.OK, 0}, {"in x (1)/in y (0)/z = merge (1) x y", api.OK, 0}, {"in x (1)/in y (0)/z = merge (0) y x", api.OK, 0}, {"in x (1)/in y (0)/z = merge (1) y x", api.ErrClock, 3}, {"in x (1)/in y (0)/z = merge (0) x y", api.ErrClock, 3}, {"in x (1)/in y 1(0)/z = merge (1) x y", api.ErrClock, 3},
		{"in x (100)/in y (010)/z = merge 10(10) x y", api.OK, 0}, {"in x 1(0)/in y 0(1)/z = merge 1(0) x y", api.OK, 0}, {"in x 1(0)/in y 0(1)/z = merge 11(0) x y", api.ErrClock, 3}, {"in x 0(10)/in y 00(10)/z = merge (10) x y", api.OK, 0}, {"in x 0(10)/in y 00(10)/z = merge (01) x y", api.ErrClock, 3},
		{"in x (10)/y = buffer x (01)", api.OK, 0}, {"in x (10)/y = buffer x (10)", api.OK, 0}, {"in x (01)/y = buffer x (10)", api.ErrClock, 2}, {"in x (10)/y = buffer x (110)", api.ErrClock, 2}, {"in x (10)/y = buffer x (1)", api.ErrClock, 2}, {"in x (1)/y = buffer x (10)", api.ErrClock, 2}, {"in x (1)/y = buffer x 0(1)", api.OK, 0}, {"in x 0(1)/y = buffer x (1)", api.ErrClock, 2}, {"in x 1(0)/y = buffer x 0001(0)", api.OK, 0}, {"in x 1(0)/y = buffer x (0)", api.OK, 0}, {"in x (0)/y = buffer x 1(0)", api.ErrClock, 2}, {"in x (1100)/y = buffer x (0101)", api.OK, 0},
		{"y = buffer n (1)/n = fby 0 n", api.ErrClock, 1}, {"n = fby 0 m/m = fby 0 n/y = buffer n (1)", api.ErrClock, 1}, {"in x (1)/y = buffer a (10)/a = when x (10)", api.OK, 0}, {"in x (1)/y = buffer a (10)/a = when x (01)", api.ErrClock, 2},
		{"in x (10)/in y (01)/a = add x x/b = add x y/c = add y x", api.ErrClock, 4}, {"c = add y x/in x (10)/in y (01)/b = add x y", api.ErrClock, 1}, {"in x (10)/in y (01)/b = buffer y (10)/c = add x y", api.ErrClock, 3}, {"in x (1)/out n/n = fby 0 n", api.ErrClock, 3},
	} {
		checkFault(t, "P9", text(c.source), c.e, c.line)
	}
}

func TestWhatAProgramTells(t *testing.T) {
	p := compile(t, text("out s/in x (10)/one = const 1 1(01)/ y  =  buffer x (01)/s = add y two/in z 11(0)//b = buffer z 0011(0)/two = const 2 (01)/out one/w = when x (110)/out s/out z/a = buffer z (0)/c = buffer b 0(0)/in k (111000)/j = buffer k (000000111111)/l = buffer w (000101)"))
	if got := fmt.Sprint(p.Ins(), p.Outs(), p.Buffers()); got != "[x z k] [s one s z] [y b a c j l]" {
		t.Errorf("P10: %s", got)
	}
	for _, c := range []struct {
		name, clock string
		size        int
	}{
		{"x", "(10)", -1}, {"one", "(10)", -1}, {"y", "(01)", 1}, {"s", "(01)", -1}, {"z", "11(0)", -1}, {"b", "0011(0)", 2}, {"two", "(01)", -1}, {"w", "(101000)", -1},
		{"a", "(0)", 2}, {"c", "(0)", 2}, {"k", "(111000)", -1}, {"j", "(000000111111)", 3}, {"l", "(000101)", 2},
	} {
		checkClock(t, "P10", p, c.name, c.clock)
		size, e := p.Size(c.name)
		if want := c.size < 0; want != (e == api.ErrUnknown) || want != (e != api.OK) || size != max(c.size, 0) {
			t.Errorf("P10: size of %s: %d, %d, want %d", c.name, size, e, c.size)
		}
	}
	for _, name := range unknownNames() {
		if clock, e := p.Clock(name); clock != "" || e != api.ErrUnknown {
			t.Errorf("P10: clock of %.30q: %q, %d", name, clock, e)
		}
		if size, e := p.Size(name); size != 0 || e != api.ErrUnknown {
			t.Errorf("P10: size of %.30q: %d, %d", name, size, e)
		}
	}
}

// unknownNames are none's, and some of them could not be.
func unknownNames() []string {
	return []string{"", " ", "in", "out", "add", "buffer", "q", "on", "onee", "X", "Y", "y ", " y", "y\x00", "(1)", "=", "1", "\n", "abcdefg", strings.Repeat("y", 1<<16)}
}

func TestClocksOfExamples(t *testing.T) {
	p := compile(t, text("in x (10)/one = const 1 (01)/y = buffer x (01)/s = add y one/out s"))
	checkClock(t, "P10", p, "s", "(01)")
	if size, e := p.Size("y"); size != 1 || e != api.OK {
		t.Errorf("P10: size of y: %d, %d", size, e)
	}
	p = compile(t, text("in x (1)/a = when x (10)/b = when x (01)/d = add a a/y = merge (10) d b/out y"))
	checkClock(t, "P10", p, "a", "(10)")
	checkClock(t, "P10", p, "y", "(1)")
	p = compile(t, text("one = const 1 (1)/n = fby 0 m/m = add n one/out n"))
	checkClock(t, "P10", p, "n", "(1)")
	p = compile(t, text("x = const 5 (10)/y = fby 7 x/out y"))
	checkClock(t, "P10", p, "y", "(10)")
}

func TestAProgramWithoutLines(t *testing.T) {
	for _, source := range []string{"", "\n", "   \n\n  "} {
		p := compile(t, source)
		if len(p.Ins())+len(p.Outs())+len(p.Buffers()) != 0 {
			t.Errorf("P10: a program without lines has %v, %v, %v", p.Ins(), p.Outs(), p.Buffers())
		}
		for _, name := range unknownNames() {
			_, e := p.Clock(name)
			_, f := p.Size(name)
			if e != api.ErrUnknown || f != api.ErrUnknown {
				t.Errorf("P10: %.30q in a program without lines: %d, %d", name, e, f)
			}
		}
	}
}

func TestListsOfNamesAreTheCallers(t *testing.T) {
	p := compile(t, text("in x (1)/in y (1)/b = buffer x (1)/c = buffer y (1)/out c/out x"))
	for range 3 {
		lists := [][]string{p.Ins(), p.Outs(), p.Buffers()}
		if got := fmt.Sprint(lists); got != "[[x y] [c x] [b c]]" {
			t.Fatalf("P2: names that were written into came out: %s", got)
		}
		for _, list := range lists {
			list[0] = "mine"
			for k := range list[:cap(list)] {
				list[:cap(list)][k] = "mine"
			}
			_ = append(list, "mine")
		}
	}
}

// The text lies in memory that the test writes into after the call: a program that kept a piece of it would change.
func TestTheTextIsNotKept(t *testing.T) {
	source := text("in abc 0(01)/out abc/k1 = const 12 (1)/defg = buffer abc 00(10)/out k1/h = when k1 (10)")
	want := tellAll(compile(t, source), []string{"abc", "k1", "defg", "h"})
	bytes := []byte(source)
	p := compile(t, unsafe.String(&bytes[0], len(bytes)))
	if string(bytes) != source {
		t.Error("P2: Compile wrote into its text")
	}
	copy(bytes, strings.Repeat("x", len(bytes)))
	if got := tellAll(p, []string{"abc", "k1", "defg", "h"}); got != want {
		t.Errorf("P2: the program told %s, later %s", want, got)
	}
}

// tellAll writes down what a program tells of itself and of some names.
func tellAll(p *streams.Program, names []string) string {
	all := fmt.Sprint(p.Ins(), p.Outs(), p.Buffers())
	for _, name := range names {
		clock, e := p.Clock(name)
		size, f := p.Size(name)
		all += fmt.Sprint(" ", name, clock, e, size, f)
	}
	return all
}
