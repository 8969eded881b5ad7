// Package source reads the text of a program: it cuts it into lines and finds the form of each.
package source

import (
	"streams/api"
	"streams/word"
)

// Kind tells which form a line has.
type Kind int

// The kinds of lines; 0 is none.
const (
	In Kind = 1 + iota
	Const
	Add
	Sub
	Mul
	Div
	Less
	If
	Fby
	When
	Merge
	Buffer
	Out
)

// Line is a line that is not empty. It keeps no piece of the text.
type Line struct {
	At     int // its number in the text
	Kind   Kind
	Name   string // its own; an output has none
	Uses   []string
	Number int
	Word   word.Word
}

// Read gives the lines of a text that are not empty.
func Read(text string) ([]Line, api.Fault) {
	if len(text) > api.MaxText {
		return nil, api.Fault{E: api.ErrText}
	}
	rows := cut(text, '\n')
	lines := []Line{}
	for n := 0; n < len(rows); n++ {
		pieces := filled(cut(rows[n], ' '))
		if len(pieces) == 0 {
			continue
		}
		line, ok := parse(pieces)
		if !ok {
			return nil, api.Fault{E: api.ErrSyntax, Line: n + 1}
		}
		line.At = n + 1
		lines = append(lines, line)
	}
	// Asked for at the end, because a wrong form is told first wherever it stands.
	if len(lines) > api.MaxLines {
		return nil, api.Fault{E: api.ErrMany, Line: lines[api.MaxLines].At}
	}
	return lines, api.Fault{}
}

// cut gives what stands between the marks, empty pieces too.
func cut(text string, mark byte) []string {
	pieces := []string{}
	begin := 0
	for n := 0; n < len(text); n++ {
		if text[n] == mark {
			pieces = append(pieces, text[begin:n])
			begin = n + 1
		}
	}
	pieces = append(pieces, text[begin:])
	return pieces
}

// filled leaves out the empty pieces.
func filled(pieces []string) []string {
	full := []string{}
	for n := 0; n < len(pieces); n++ {
		if pieces[n] != "" {
			full = append(full, pieces[n])
		}
	}
	return full
}
