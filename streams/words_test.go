package streams_test

import (
	"math/rand"
	"strings"
	"testing"
	"unsafe"

	"streams/api"
	"streams/streams"
)

// answer is what a call on words gave, whichever call it was.
type answer struct {
	word  string
	ahead bool
	size  int
	e     api.Errno
}

// calls names the calls on words; those on one word read the first argument alone.
var calls = []string{"Normal", "Not", "Either", "On", "Ahead", "Size"}

func onTwo(call string) bool { return call != "Normal" && call != "Not" }

func ask(call, a, b string) answer {
	var got answer
	switch call {
	case "Normal":
		got.word, got.e = streams.Normal(a)
	case "Not":
		got.word, got.e = streams.Not(a)
	case "Either":
		got.word, got.e = streams.Either(a, b)
	case "On":
		got.word, got.e = streams.On(a, b)
	case "Ahead":
		got.ahead, got.e = streams.Ahead(a, b)
	case "Size":
		got.size, got.e = streams.Size(a, b)
	}
	return got
}

func check(t *testing.T, promise, call, a, b string, want answer) {
	t.Helper()
	if got := ask(call, a, b); got != want {
		t.Errorf("%s: %s of %.60q and %.60q: %+v, want %+v", promise, call, a, b, got, want)
	}
}

func zeros(n int) string { return strings.Repeat("0", n) }

// wrong are texts that are no words, or have a part that is too long.
func wrong() []string {
	return []string{
		"", " ", "0", "1", "01", "(", ")", "()", "1()", "0101()", ")(", ")1(", "(1", "1)", "01)", "(01", "1(", "1(0", "((", "))",
		"(1))", "((1)", "((1))", "(1)(0)", "(1)0", "1(0)1", "(1) ", " (1)", "1 (0)", "( 1)", "(1 )", "(1)\n", "(1)\x00", "\x00(1)",
		"(2)", "2(1)", "a(1)", "(a)", "(-1)", "[1]", "{1}", "1(0", "1(0]", "(1,0)", "(/)", "(:)", "/(1)", "1:(1)", "(٠)", "(１)", "\xff(1)", "(\xff)", "(0\x80)",
		zeros(13) + "(1)", "(" + zeros(12) + "1)", zeros(13) + "(" + zeros(13) + ")", zeros(12) + "(" + zeros(13) + ")", zeros(13) + "(" + zeros(12) + ")",
		zeros(14) + "(" + zeros(10) + ")", zeros(10) + "(" + zeros(14) + ")", zeros(25) + "(", "(" + zeros(25), zeros(26), "(" + zeros(100000) + ")", zeros(100000) + "(1)",
		"(1)" + strings.Repeat(" ", 1<<20), strings.Repeat("(", 1<<20), strings.Repeat("(1)", 1<<18),
	}
}

func TestNormalOfExamples(t *testing.T) {
	for _, c := range [][2]string{
		{"(1)", "(1)"}, {"1(01)", "(10)"}, {"10(1010)", "(10)"}, {"0(11)", "0(1)"}, {"110(10010)", "1(10100)"}, {"01(1)", "0(1)"}, {"(0)", "(0)"},
	} {
		check(t, "P3", "Normal", c[0], "", answer{word: c[1]})
	}
}

func TestNormalOfLongestParts(t *testing.T) {
	full := zeros(11) + "1"
	for _, c := range [][2]string{
		{zeros(12) + "(1)", zeros(12) + "(1)"},
		{zeros(12) + "(0)", "(0)"},
		{"(" + full + ")", "(" + full + ")"},
		{"(" + zeros(12) + ")", "(0)"},
		{full + "(" + full + ")", "(" + full + ")"},
		{zeros(12) + "(" + full + ")", zeros(12) + "(" + full + ")"},
		{strings.Repeat("1", 12) + "(" + full + ")", strings.Repeat("1", 11) + "(1" + zeros(11) + ")"},
		{strings.Repeat("01", 6) + "(" + strings.Repeat("01", 6) + ")", "(01)"},
		{"(" + strings.Repeat("0111", 3) + ")", "(0111)"},
		{"(" + strings.Repeat("011011", 2) + ")", "(011)"},
	} {
		check(t, "P3", "Normal", c[0], "", answer{word: c[1]})
	}
}

func TestNormalOfAllShortWords(t *testing.T) {
	for _, a := range allWords(6) {
		check(t, "P3", "Normal", a, "", answer{word: shortest(spell(a, 60))})
	}
}

func TestSameWordsHaveOneNormalForm(t *testing.T) {
	forms := map[string]string{}
	for _, a := range allWords(5) {
		got := ask("Normal", a, "")
		bits := spell(a, 60)
		if old, ok := forms[bits]; ok && old != got.word {
			t.Errorf("P3: words of the same bits have the normal forms %s and %s", old, got.word)
		}
		forms[bits] = got.word
	}
}

func TestWrongWords(t *testing.T) {
	right := []string{"(1)", "(0)", zeros(12) + "(" + zeros(11) + "1)"}
	for _, call := range calls {
		for _, a := range wrong() {
			check(t, "P3", call, a, a, answer{e: api.ErrWord})
			for _, b := range right {
				check(t, "P3", call, a, b, answer{e: api.ErrWord})
				if onTwo(call) {
					check(t, "P3", call, b, a, answer{e: api.ErrWord})
				}
			}
		}
	}
}

// A wrong word is told even where what the right one alone would give is settled, or too long.
func TestWrongWordIsToldFirst(t *testing.T) {
	for _, call := range []string{"Either", "On", "Ahead", "Size"} {
		for _, a := range []string{"(1)", "(0)", "0(0)", "(10000000000)"} {
			check(t, "P1", call, a, "("+zeros(12)+"1)", answer{e: api.ErrWord})
			check(t, "P1", call, "("+zeros(12)+"1)", a, answer{e: api.ErrWord})
		}
	}
}

func TestJoinsOfExamples(t *testing.T) {
	for _, c := range []struct{ call, a, b, want string }{
		{"Not", "1(001)", "", "(011)"}, {"Not", "(1)", "", "(0)"}, {"Not", "(0)", "", "(1)"}, {"Not", "10(1010)", "", "(01)"}, {"Not", "01(1)", "", "1(0)"},
		{"Not", zeros(12) + "(1)", "", strings.Repeat("1", 12) + "(0)"}, {"Not", "(" + zeros(11) + "1)", "", "(" + strings.Repeat("1", 11) + "0)"},
		{"Either", "(100)", "(01)", "(110101)"}, {"Either", "(10)", "(01)", "(1)"}, {"Either", "(0)", "(0)", "(0)"}, {"Either", "01(0)", "001(0)", "011(0)"}, {"Either", "1(0)", "0(1)", "(1)"},
		{"On", "(10)", "(01)", "(0010)"}, {"On", "0(110)", "(10)", "(010)"}, {"On", "(10)", "1(0)", "1(0)"}, {"On", "1(0)", "01(1)", "(0)"},
		{"On", "(0)", "1(1)", "(0)"}, {"On", "(1)", "1(0)", "1(0)"}, {"On", "11(0)", "01(1)", "01(0)"}, {"On", "111(0)", "1(01)", "101(0)"}, {"On", "(01)", "(01)", "(0001)"},
	} {
		check(t, "P4", c.call, c.a, c.b, answer{word: c.want})
	}
}

func TestJoinsOfAllShortWords(t *testing.T) {
	words := allWords(3)
	for _, a := range words {
		x := spell(a, 100)
		check(t, "P4", "Not", a, "", answer{word: shortest(turned(x))})
		for _, b := range words {
			y := spell(b, 100)
			check(t, "P4", "Either", a, b, answer{word: shortest(joined(x, y))})
			check(t, "P4", "On", a, b, answer{word: shortest(thinned(x, y))})
		}
	}
}

// limited is what must be told of bits that were found in the slow way.
func limited(bits string) answer {
	w := shortest(bits)
	u, v := parts(w)
	if len(u) > api.MaxLead || len(v) > api.MaxRound {
		return answer{e: api.ErrLong}
	}
	return answer{word: w}
}

func TestJoinsOfSomeLongWords(t *testing.T) {
	r := rand.New(rand.NewSource(1))
	long := 0
	for range 3000 {
		a, b := someWord(r), someWord(r)
		x, y := spell(a, 1000), spell(b, 1000)
		either, on := limited(joined(x, y)), limited(thinned(x, y))
		check(t, "P4", "Not", a, "", limited(turned(x)))
		check(t, "P4", "Either", a, b, either)
		check(t, "P4", "On", a, b, on)
		if either.e == api.ErrLong || on.e == api.ErrLong {
			long++
		}
	}
	if long < 100 || long > 2900 {
		t.Errorf("of 3000 pairs %d are too long: the pairs try too little", long)
	}
}

func TestLongestWordsThatComeOut(t *testing.T) {
	for _, c := range []struct{ call, a, b, want string }{
		{"On", "(00000001)", "00000001(0)", zeros(63) + "1(0)"},
		{"On", "(00000001)", "00000000(1)", zeros(64) + "(00000001)"},
		{"On", "(00000001)", "(00000001)", "(" + zeros(63) + "1)"},
		{"On", "(00000001)", "00000001(10000000)", zeros(63) + "1(00000001" + zeros(56) + ")"},
		{"On", "0(00000001)", "0000001(10000000)", zeros(56) + "1(00000001" + zeros(56) + ")"},
		{"Either", "(1000000)", "(100000000)", shortest(joined(spell("(1000000)", 400), spell("(100000000)", 400)))},
	} {
		check(t, "P3", c.call, c.a, c.b, answer{word: c.want})
	}
}

func TestWordsTooLongToComeOut(t *testing.T) {
	for _, c := range [][3]string{
		{"On", "0(00000001)", "00000001(0)"},
		{"On", "0(00000001)", "00000000(1)"},
		{"On", "0(00000001)", "00000001(10000000)"},
		{"On", "(" + zeros(10) + "1)", "(000001)"},
		{"On", "(000001)", "(" + zeros(10) + "1)"},
		{"On", zeros(12) + "(" + zeros(11) + "1)", zeros(12) + "(" + zeros(11) + "1)"},
		{"Either", "(" + zeros(10) + "1)", "(000001)"},
		{"Either", "(" + zeros(10) + "1)", "(" + zeros(11) + "1)"},
		{"Either", "1(000000001)", "0(00000001)"},
	} {
		check(t, "P3", c[0], c[1], c[2], answer{e: api.ErrLong})
	}
}

// What is walked through on the way may be longer than what comes out: the normal form alone is measured.
func TestLongWaysToShortWords(t *testing.T) {
	for _, c := range []struct{ call, a, b, want string }{
		{"Either", "(" + zeros(11) + ")", "(" + zeros(12) + ")", "(0)"},
		{"Either", "(" + strings.Repeat("1", 11) + ")", "(" + zeros(11) + "1)", "(1)"},
		{"On", "(" + zeros(11) + "1)", "(" + zeros(11) + ")", "(0)"},
		{"On", "(" + zeros(11) + "1)", zeros(12) + "(0)", "(0)"},
		{"On", "(" + zeros(11) + "1)", strings.Repeat("1", 12) + "(1)", "(" + zeros(11) + "1)"},
	} {
		check(t, "P3", c.call, c.a, c.b, answer{word: c.want})
	}
}

func TestAheadAndSizeOfExamples(t *testing.T) {
	full := zeros(12) + "(1)"
	for _, c := range []struct {
		a, b  string
		ahead bool
		size  int
		e     api.Errno
	}{
		{"(10)", "(01)", true, 1, api.OK}, {"(01)", "(10)", false, 0, api.ErrApart},
		{"(110)", "(10)", true, 0, api.ErrApart}, {"(10)", "(110)", false, 0, api.ErrApart},
		{"(1100)", "(0011)", true, 2, api.OK}, {"11(0)", "0011(0)", true, 2, api.OK}, {"(1)", "(1)", true, 0, api.OK},
		{"(0)", "(0)", true, 0, api.OK}, {"(1)", "(0)", true, 0, api.ErrApart}, {"(0)", "(1)", false, 0, api.ErrApart},
		{"0(0)", "(0)", true, 0, api.OK}, {"(0)", "01(0)", false, 0, api.ErrApart}, {"1(01)", "(10)", true, 0, api.OK},
		{"(1)", full, true, 12, api.OK}, {full, "(1)", false, 0, api.ErrApart}, {full, full, true, 0, api.OK},
		{strings.Repeat("1", 12) + "(10)", zeros(12) + "(01)", true, 13, api.OK},
		{strings.Repeat("1", 12) + "(0)", "(" + zeros(11) + "1)", false, 0, api.ErrApart},
		{strings.Repeat("1", 12) + "(" + zeros(11) + "1)", "(" + zeros(10) + "1)", false, 0, api.ErrApart},
		{"01(1)", "1(0)", false, 0, api.ErrApart}, {"1(10)", "(110)", false, 0, api.ErrApart}, {"(1100)", "(10)", true, 1, api.OK}, {"(10)", "(1100)", false, 0, api.ErrApart},
		{"(111000)", "(000000111111)", true, 3, api.OK}, {"(111111000000)", "(000111)", true, 3, api.OK}, {"(000111)", "(111111000000)", false, 0, api.ErrApart},
	} {
		check(t, "P5", "Ahead", c.a, c.b, answer{ahead: c.ahead})
		check(t, "P5", "Size", c.a, c.b, answer{size: c.size, e: c.e})
	}
}

// checkGaps holds Ahead and Size against the first n bits of both words, and tells whether a adapts to b.
func checkGaps(t *testing.T, a, b string, n int) bool {
	t.Helper()
	least, most := spread(spell(a, n), spell(b, n))
	adapts := least >= 0 && sameRate(a, b)
	size := answer{size: most}
	if !adapts {
		size = answer{e: api.ErrApart}
	}
	check(t, "P5", "Ahead", a, b, answer{ahead: least >= 0})
	check(t, "P5", "Size", a, b, size)
	return adapts
}

func TestAheadAndSizeOfAllShortWords(t *testing.T) {
	words := allWords(3)
	for _, a := range words {
		for _, b := range words {
			checkGaps(t, a, b, 100)
		}
	}
}

func TestAheadAndSizeOfSomeLongWords(t *testing.T) {
	r := rand.New(rand.NewSource(2))
	fits := 0
	for range 4000 {
		a, b := someWord(r), someWord(r)
		if r.Intn(2) == 0 {
			_, v := parts(a)
			u, _ := parts(b)
			k := r.Intn(len(v))
			b = u + "(" + v[k:] + v[:k] + ")"
		}
		if checkGaps(t, a, b, 6000) {
			fits++
		}
	}
	if fits < 400 {
		t.Errorf("of 4000 pairs %d adapt: the pairs try too little", fits)
	}
}

// Every text of a few characters is asked for; an answer that does not come, or a panic, ends the test.
func TestCallsEndAtAllTexts(t *testing.T) {
	texts := []string{""}
	for k := 0; len(texts[k]) < 5; k++ {
		for _, c := range []string{"0", "1", "(", ")", "x"} {
			texts = append(texts, texts[k]+c)
		}
	}
	for k, a := range texts {
		b := texts[(k*101+57)%len(texts)]
		for _, call := range calls {
			isWord := shaped(a) && (!onTwo(call) || shaped(b))
			got := ask(call, a, b)
			if isWord == (got.e == api.ErrWord) {
				t.Fatalf("P3: %s of %q and %q: %+v", call, a, b, got)
			}
			if got.e != api.OK && got != (answer{e: got.e}) {
				t.Fatalf("P1: %s of %q and %q: %+v", call, a, b, got)
			}
		}
	}
}

// shaped tells whether a short text is a word.
func shaped(a string) bool {
	u, rest, open := strings.Cut(a, "(")
	v, end, shut := strings.Cut(rest, ")")
	return open && shut && end == "" && v != "" && strings.Trim(u+v, "01") == ""
}

// The texts lie in memory that the test writes into after the call: an answer that kept a piece of them would change.
func TestWhatIsHandedInIsNotKept(t *testing.T) {
	for _, call := range calls {
		for _, c := range [][2]string{{"(10)", "(10)"}, {"0(1)", "(1)"}, {"(1)", "110(100)"}, {"(1)", "(0)"}} {
			want := ask(call, c[0], c[1])
			first, second := []byte(c[0]), []byte(c[1])
			a := unsafe.String(&first[0], len(first))
			b := unsafe.String(&second[0], len(second))
			got := ask(call, a, b)
			if string(first) != c[0] || string(second) != c[1] {
				t.Errorf("P2: %s of %s and %s wrote into its arguments", call, c[0], c[1])
			}
			copy(first, strings.Repeat("x", len(first)))
			copy(second, strings.Repeat("x", len(second)))
			if got != want {
				t.Errorf("P2: %s of %s and %s: %+v, later %+v", call, c[0], c[1], want, got)
			}
		}
	}
}

func TestAnswersHangOnNoCallAhead(t *testing.T) {
	r := rand.New(rand.NewSource(3))
	type asked struct {
		call, a, b string
		got        answer
	}
	var all []asked
	for range 400 {
		q := asked{call: calls[r.Intn(len(calls))], a: someWord(r), b: someWord(r)}
		if r.Intn(8) == 0 {
			q.b = wrong()[r.Intn(40)]
		}
		q.got = ask(q.call, q.a, q.b)
		all = append(all, q)
	}
	r.Shuffle(len(all), func(i, k int) { all[i], all[k] = all[k], all[i] })
	for _, q := range all {
		check(t, "P2", q.call, q.a, q.b, q.got)
	}
}
