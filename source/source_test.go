package source

import (
	"fmt"
	"strings"
	"testing"

	"streams/api"
	"streams/word"
)

func parseWord(t *testing.T, w string) word.Word {
	t.Helper()
	if w == "" {
		return word.Word{}
	}
	parsed, ok := word.Parse(w)
	if !ok {
		t.Fatalf("%s is no word", w)
	}
	return parsed
}

func TestLinesOfEachForm(t *testing.T) {
	for _, c := range []struct {
		row    string
		kind   Kind
		name   string
		uses   string
		number int
		word   string
	}{
		{"in x 1(01)", In, "x", "[]", 0, "(10)"},
		{"x = const 12 (01)", Const, "x", "[]", 12, "(01)"},
		{"x = const -9999999999 0(1)", Const, "x", "[]", -9999999999, "0(1)"},
		{"x = const 0000000042 (1)", Const, "x", "[]", 42, "(1)"},
		{"x = const -0 (1)", Const, "x", "[]", 0, "(1)"},
		{"x = add a b", Add, "x", "[a b]", 0, ""},
		{"x = sub a b", Sub, "x", "[a b]", 0, ""},
		{"x = mul a b", Mul, "x", "[a b]", 0, ""},
		{"x = div a b", Div, "x", "[a b]", 0, ""},
		{"x = less b a", Less, "x", "[b a]", 0, ""},
		{"x = if c a b", If, "x", "[c a b]", 0, ""},
		{"x = fby 9999999999 a", Fby, "x", "[a]", 9999999999, ""},
		{"x = fby -7 x", Fby, "x", "[x]", -7, ""},
		{"x = when a (10)", When, "x", "[a]", 0, "(10)"},
		{"x = merge (110) b a", Merge, "x", "[b a]", 0, "(110)"},
		{"x = buffer a 0(0)", Buffer, "x", "[a]", 0, "(0)"},
		{"out abcdef", Out, "", "[abcdef]", 0, ""},
	} {
		lines, f := Read("\n  \n " + strings.ReplaceAll(c.row, " ", "  ") + " \n")
		if f != (api.Fault{}) || len(lines) != 1 {
			t.Errorf("%s: %d lines, %+v", c.row, len(lines), f)
			continue
		}
		l := lines[0]
		if l.At != 3 || l.Kind != c.kind || l.Name != c.name || fmt.Sprint(l.Uses) != c.uses || l.Number != c.number || l.Word != parseWord(t, c.word) {
			t.Errorf("%s: %+v", c.row, l)
		}
	}
}

func TestNothingBesideAFault(t *testing.T) {
	for _, text := range []string{"in x (1)\n?", strings.Repeat("in x (1)\n", 25), strings.Repeat(" ", 801)} {
		if lines, f := Read(text); lines != nil || f.E == api.OK {
			t.Errorf("%.20q: %v, %+v", text, lines, f)
		}
	}
}
