package streams_test

import (
	"regexp"
	"slices"
	"strconv"
	"strings"

	"streams/api"
)

// This is the document's meaning of programs, told in the slowest way: clocks are their first bits, written down.

// farBits are enough to tell clocks apart, and to find the round of one that comes out or see that it has none.
const farBits = 9000

type modelLine struct {
	at     int
	op     string
	own    string
	uses   []string
	word   string
	number int
}

// told is all that Compile, and then the program, tell.
type told struct {
	fault   api.Fault
	ins     []string
	outs    []string
	buffers []string
	clocks  map[string]string
	sizes   map[string]int
}

var modelForms = []*regexp.Regexp{
	formOf(`in NAME WORD`),
	formOf(`NAME = const NUMBER WORD`),
	formOf(`NAME = (add|sub|mul|div|less) NAME NAME`),
	formOf(`NAME = if NAME NAME NAME`),
	formOf(`NAME = fby NUMBER NAME`),
	formOf(`NAME = when NAME WORD`),
	formOf(`NAME = merge WORD NAME NAME`),
	formOf(`NAME = buffer NAME WORD`),
	formOf(`out NAME`),
}

func formOf(form string) *regexp.Regexp {
	return regexp.MustCompile(`\A` + strings.NewReplacer("NAME", `[a-z][a-z0-9]{0,5}`, "NUMBER", `-?[0-9]{1,10}`, "WORD", `[01]{0,12}\([01]{1,12}\)`).Replace(form) + `\z`)
}

func modelParse(pieces []string) (modelLine, bool) {
	row := strings.Join(pieces, " ")
	if !slices.ContainsFunc(modelForms, func(form *regexp.Regexp) bool { return form.MatchString(row) }) {
		return modelLine{}, false
	}
	var l modelLine
	switch pieces[0] {
	case "in":
		l.op, l.own, pieces = "in", pieces[1], pieces[2:]
	case "out":
		l.op, pieces = "out", pieces[1:]
	default:
		l.op, l.own, pieces = pieces[2], pieces[0], pieces[3:]
	}
	for _, piece := range pieces {
		switch {
		case strings.Contains(piece, "("):
			l.word = piece
		case piece[0] >= 'a':
			l.uses = append(l.uses, piece)
		default:
			l.number, _ = strconv.Atoi(piece)
		}
	}
	names := append([]string{l.own}, l.uses...)
	return l, !slices.Contains(names, "in") && !slices.Contains(names, "out")
}

func modelRead(text string) ([]modelLine, api.Fault) {
	var lines []modelLine
	if len(text) > 800 {
		return nil, api.Fault{E: api.ErrText}
	}
	for k, row := range strings.Split(text, "\n") {
		pieces := strings.FieldsFunc(row, func(c rune) bool { return c == ' ' })
		if len(pieces) == 0 {
			continue
		}
		l, ok := modelParse(pieces)
		if !ok {
			return nil, api.Fault{E: api.ErrSyntax, Line: k + 1}
		}
		l.at = k + 1
		lines = append(lines, l)
	}
	if len(lines) > 24 {
		return nil, api.Fault{E: api.ErrMany, Line: lines[24].at}
	}
	return lines, api.Fault{}
}

func modelNames(lines []modelLine) api.Fault {
	owners := map[string]int{}
	for k, l := range lines {
		if _, twice := owners[l.own]; twice && l.own != "" {
			return api.Fault{E: api.ErrTwice, Line: l.at}
		}
		owners[l.own] = k
	}
	for _, l := range lines {
		for _, use := range l.uses {
			if _, known := owners[use]; !known {
				return api.Fault{E: api.ErrUnknown, Line: l.at}
			}
		}
	}
	// hangs[a][b]: line a hangs at once on line b, in some number of turns.
	hangs := make([][]bool, len(lines))
	for k, l := range lines {
		hangs[k] = make([]bool, len(lines))
		for _, use := range l.uses {
			hangs[k][owners[use]] = l.op != "fby" && l.op != "out"
		}
	}
	for via := range lines {
		for a := range lines {
			for b := range lines {
				hangs[a][b] = hangs[a][b] || hangs[a][via] && hangs[via][b]
			}
		}
	}
	for k, l := range lines {
		if hangs[k][k] {
			return api.Fault{E: api.ErrCause, Line: l.at}
		}
	}
	return api.Fault{}
}

// isLong tells whether the bits have no round of at most 64 that begins behind at most 64.
func isLong(bits string) bool {
	for p := 1; p <= 64; p++ {
		if bits[64:len(bits)-p] == bits[64+p:] {
			return false
		}
	}
	return true
}

func modelFind(l modelLine, clocks map[string]string) string {
	switch l.op {
	case "out":
		return ""
	case "when":
		if clock := clocks[l.uses[0]]; clock != "" {
			return thinned(clock, spell(l.word, farBits))
		}
		return ""
	case "merge":
		if a, b := clocks[l.uses[0]], clocks[l.uses[1]]; a != "" && b != "" {
			return joined(a, b)
		}
		return ""
	}
	for _, use := range l.uses {
		if clock := clocks[use]; clock != "" {
			return clock
		}
	}
	return ""
}

func modelClocks(lines []modelLine) (map[string]string, api.Fault) {
	clocks := map[string]string{}
	for _, l := range lines {
		if l.op == "in" || l.op == "const" || l.op == "buffer" {
			clocks[l.own] = spell(l.word, farBits)
		}
	}
	for found := true; found; {
		found = false
		for _, l := range lines {
			if clocks[l.own] != "" {
				continue
			}
			clock := modelFind(l, clocks)
			if clock == "" {
				continue
			}
			if isLong(clock) {
				return nil, api.Fault{E: api.ErrLong, Line: l.at}
			}
			clocks[l.own] = clock
			found = true
		}
	}
	return clocks, api.Fault{}
}

func modelFits(l modelLine, clocks map[string]string) bool {
	own := clocks[l.own]
	var used []string
	for _, use := range l.uses {
		used = append(used, clocks[use])
	}
	switch l.op {
	case "in", "out":
		return true
	case "const", "when":
		return own != ""
	case "merge":
		bits := spell(l.word, farBits)
		return own != "" && thinned(own, bits) == used[0] && thinned(own, turned(bits)) == used[1]
	case "buffer":
		if used[0] == "" {
			return false
		}
		least, _ := spread(used[0], own)
		return least >= 0 && sameRate(shortest(used[0]), l.word)
	}
	return own != "" && !slices.ContainsFunc(used, func(clock string) bool { return clock != own })
}

// modelCompile tells all that is to be told of a text.
func modelCompile(text string) told {
	lines, fault := modelRead(text)
	if fault.E != api.OK {
		return told{fault: fault}
	}
	if fault = modelNames(lines); fault.E != api.OK {
		return told{fault: fault}
	}
	clocks, fault := modelClocks(lines)
	if fault.E != api.OK {
		return told{fault: fault}
	}
	all := told{clocks: map[string]string{}, sizes: map[string]int{}}
	for _, l := range lines {
		if !modelFits(l, clocks) {
			return told{fault: api.Fault{E: api.ErrClock, Line: l.at}}
		}
		switch l.op {
		case "in":
			all.ins = append(all.ins, l.own)
		case "out":
			all.outs = append(all.outs, l.uses[0])
			continue
		case "buffer":
			all.buffers = append(all.buffers, l.own)
			_, most := spread(clocks[l.uses[0]], clocks[l.own])
			all.sizes[l.own] = most
		}
		all.clocks[l.own] = shortest(clocks[l.own])
	}
	return all
}
