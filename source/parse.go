package source

import (
	"streams/api"
	"streams/word"
)

// parse finds the form of a line; false if it has none.
func parse(pieces []string) (Line, bool) {
	if len(pieces) < 2 {
		return Line{}, false
	}
	if pieces[0] == "in" {
		return parseOwn(In, pieces[1], "w", pieces[2:])
	}
	if pieces[0] == "out" {
		return fill(Line{Kind: Out}, "a", pieces[1:])
	}
	if len(pieces) < 3 || pieces[1] != "=" {
		return Line{}, false
	}
	kind, shape := operation(pieces[2])
	if kind == 0 {
		return Line{}, false
	}
	return parseOwn(kind, pieces[0], shape, pieces[3:])
}

// operation tells which kind of line an operation makes, and the shape of what must stand behind it:
// a letter for each piece, a for a name, n for a number, w for a word.
func operation(piece string) (Kind, string) {
	switch piece {
	case "const":
		return Const, "nw"
	case "add":
		return Add, "aa"
	case "sub":
		return Sub, "aa"
	case "mul":
		return Mul, "aa"
	case "div":
		return Div, "aa"
	case "less":
		return Less, "aa"
	case "if":
		return If, "aaa"
	case "fby":
		return Fby, "na"
	case "when":
		return When, "aw"
	case "merge":
		return Merge, "waa"
	case "buffer":
		return Buffer, "aw"
	}
	return 0, ""
}

// parseOwn reads a line that has a name of its own.
func parseOwn(kind Kind, own string, shape string, pieces []string) (Line, bool) {
	name, ok := readName(own)
	if !ok {
		return Line{}, false
	}
	return fill(Line{Kind: kind, Name: name}, shape, pieces)
}

// fill takes the pieces into the line, if they are what the shape tells.
func fill(line Line, shape string, pieces []string) (Line, bool) {
	if len(pieces) != len(shape) {
		return Line{}, false
	}
	for n := 0; n < len(pieces); n++ {
		ok := line.take(shape[n], pieces[n])
		if !ok {
			return Line{}, false
		}
	}
	return line, true
}

func (line *Line) take(want byte, piece string) bool {
	switch want {
	case 'n':
		number, ok := readNumber(piece)
		line.Number = number
		return ok
	case 'w':
		clock, ok := word.Parse(piece)
		line.Word = clock
		return ok
	}
	name, ok := readName(piece)
	line.Uses = append(line.Uses, name)
	return ok
}

func readName(piece string) (string, bool) {
	if piece == "" || len(piece) > api.MaxName || piece == "in" || piece == "out" {
		return "", false
	}
	if !isLetter(piece[0]) {
		return "", false
	}
	for n := 1; n < len(piece); n++ {
		if !isLetter(piece[n]) && !isDigit(piece[n]) {
			return "", false
		}
	}
	// A copy: a piece would keep the whole text.
	return string([]byte(piece)), true
}

// maxDigits is small enough for every number to fit.
const maxDigits = 10

func readNumber(piece string) (int, bool) {
	digits := piece
	minus := piece != "" && piece[0] == '-'
	if minus {
		digits = piece[1:]
	}
	if digits == "" || len(digits) > maxDigits {
		return 0, false
	}
	number := 0
	for n := 0; n < len(digits); n++ {
		if !isDigit(digits[n]) {
			return 0, false
		}
		number = number*10 + int(digits[n]-'0')
	}
	if minus {
		number = -number
	}
	return number, true
}

func isLetter(c byte) bool {
	return c >= 'a' && c <= 'z'
}

func isDigit(c byte) bool {
	return c >= '0' && c <= '9'
}
