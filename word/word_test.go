package word

import (
	"math/rand"
	"strings"
	"testing"
)

// made gives a word of parts of any length, as clocks that were found have them.
func made(u, v string) Word { return normal([]byte(u+v), len(u)) }

func spell(u, v string, n int) string { return (u + strings.Repeat(v, n/len(v)+1))[:n] }

func someBits(r *rand.Rand, n int) string {
	bits := make([]byte, n)
	for k := range bits {
		bits[k] = digit(r.Intn(3) == 0)
	}
	return string(bits)
}

// Words that come out of a call are longer than those of a text: the calls must hold for them too.
func TestWordsLongerThanTexts(t *testing.T) {
	r := rand.New(rand.NewSource(4))
	const far = 20000
	for range 60 {
		u, v := someBits(r, r.Intn(65)), someBits(r, 1+r.Intn(64))
		x, y := someBits(r, r.Intn(65)), someBits(r, 1+r.Intn(64))
		a, b := spell(u, v, far), spell(x, y, far)
		or := Either(made(u, v), made(x, y))
		on := On(made(u, v), made(x, y))
		not := Not(made(u, v))
		next := 0
		for n := range far {
			if or.Bit(n) != (a[n] == '1' || b[n] == '1') || not.Bit(n) == (a[n] == '1') {
				t.Fatalf("either or not of %s(%s) and %s(%s): bit %d", u, v, x, y, n)
			}
			if on.Bit(n) != (a[n] == '1' && b[next] == '1') {
				t.Fatalf("%s(%s) on %s(%s): bit %d", u, v, x, y, n)
			}
			if a[n] == '1' {
				next++
			}
		}
	}
}

func TestSizesOfLongWords(t *testing.T) {
	r := rand.New(rand.NewSource(5))
	const far = 20000
	for range 200 {
		v := someBits(r, 1+r.Intn(64))
		k := r.Intn(len(v))
		u, x, y := someBits(r, r.Intn(65)), someBits(r, r.Intn(65)), v[k:]+v[:k]
		a, b := spell(u, v, far), spell(x, y, far)
		least, most, gap := 0, 0, 0
		for n := range far {
			gap += int(a[n]) - int(b[n])
			least, most = min(least, gap), max(most, gap)
		}
		if least < 0 {
			most = 0
		}
		size, ok := Size(made(u, v), made(x, y))
		if ahead := Ahead(made(u, v), made(x, y)); ahead != (least >= 0) || ok != ahead || size != most {
			t.Fatalf("%s(%s) to %s(%s): %v, %d, %v, want %d, %v", u, v, x, y, ahead, size, ok, most, least >= 0)
		}
	}
}

func TestLong(t *testing.T) {
	for _, c := range []struct {
		lead, round int
		want        bool
	}{{0, 1, false}, {64, 64, false}, {65, 64, true}, {64, 65, true}, {65, 1, true}, {0, 65, true}} {
		u := strings.Repeat("1", c.lead)
		v := "1" + strings.Repeat("0", c.round-1)
		if c.round == 1 {
			v = "0"
		}
		if w := made(u, v); len(w.lead) != c.lead || len(w.round) != c.round || w.Long() != c.want {
			t.Errorf("%d and %d: %s, %v", c.lead, c.round, w.Text(), w.Long())
		}
	}
}

// The zero Word is none, but nothing that is done with it may panic.
func TestZeroWord(t *testing.T) {
	some, _ := Parse("1(01)")
	for _, c := range [][2]Word{{{}, {}}, {{}, some}, {some, {}}} {
		Not(c[0])
		Either(c[0], c[1])
		On(c[0], c[1])
		Ahead(c[0], c[1])
		Size(c[0], c[1])
	}
	if got := On(Word{}, Word{}); got != (Word{}) || got.Bit(0) {
		t.Errorf("none on none is %s", got.Text())
	}
}
