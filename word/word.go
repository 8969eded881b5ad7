// Package word has the words of bits that clocks are: how they are read, told, made from each other and compared.
package word

import "streams/api"

// Word is always in normal form, so two words mean the same bits just if their parts are alike.
// The zero Word is none: it has no bits.
type Word struct {
	lead  string
	round string
}

// Parse reads a word as arguments and programs have it: each part has at most MaxPart characters.
func Parse(text string) (Word, bool) {
	// Tested first, so that a text of any length is refused without a walk through it.
	if len(text) > 2*api.MaxPart+2 {
		return Word{}, false
	}
	open := findOpen(text)
	last := len(text) - 1
	if open < 0 || last <= open || text[last] != ')' {
		return Word{}, false
	}
	lead := text[:open]
	round := text[open+1 : last]
	if round == "" || !isPart(lead) || !isPart(round) {
		return Word{}, false
	}
	return normal([]byte(lead+round), len(lead)), true
}

// findOpen tells where the first opening bracket stands, or -1.
func findOpen(text string) int {
	for n := 0; n < len(text); n++ {
		if text[n] == '(' {
			return n
		}
	}
	return -1
}

func isPart(text string) bool {
	if len(text) > api.MaxPart {
		return false
	}
	for n := 0; n < len(text); n++ {
		if text[n] != '0' && text[n] != '1' {
			return false
		}
	}
	return true
}

// None tells whether this is the zero Word.
func (w Word) None() bool {
	return w.round == ""
}

// Text writes the word, however long it is.
func (w Word) Text() string {
	return w.lead + "(" + w.round + ")"
}

// Long tells whether the word is too long to come out.
func (w Word) Long() bool {
	return len(w.lead) > api.MaxLead || len(w.round) > api.MaxRound
}

// Bit tells whether bit n is a 1; the zero Word has none.
func (w Word) Bit(n int) bool {
	if n < 0 || w.None() {
		return false
	}
	if n < len(w.lead) {
		return w.lead[n] == '1'
	}
	return w.round[(n-len(w.lead))%len(w.round)] == '1'
}

// count tells how many ones a part has.
func count(part string) int {
	ones := 0
	for n := 0; n < len(part); n++ {
		if part[n] == '1' {
			ones++
		}
	}
	return ones
}
