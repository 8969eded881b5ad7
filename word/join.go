package word

// Not turns each bit.
func Not(a Word) Word {
	total := len(a.lead) + len(a.round)
	bits := []byte{}
	for n := 0; n < total; n++ {
		bits = append(bits, digit(!a.Bit(n)))
	}
	return normal(bits, len(a.lead))
}

// Either has a 1 where a or b or both have one.
func Either(a Word, b Word) Word {
	lead := bothLead(a, b)
	total := lead + bothRound(a, b)
	bits := []byte{}
	for n := 0; n < total; n++ {
		bits = append(bits, digit(a.Bit(n) || b.Bit(n)))
	}
	return normal(bits, lead)
}

// On puts the bits of b in the places of the ones of a.
func On(a Word, b Word) Word {
	lead := onLead(a, b)
	total := lead + onRound(a, b)
	bits := []byte{}
	next := 0
	for n := 0; n < total; n++ {
		one := a.Bit(n)
		bits = append(bits, digit(one && b.Bit(next)))
		if one {
			next++
		}
	}
	return normal(bits, lead)
}

// onLead tells how many bits it takes till a is in its rounds and has used up the first part of b.
func onLead(a Word, b Word) int {
	lead := len(a.lead)
	gain := count(a.round)
	// Without ones in its rounds a uses no more of b, so what comes then is settled.
	if gain == 0 {
		return lead
	}
	for used := count(a.lead); used < len(b.lead); used += gain {
		lead += len(a.round)
	}
	return lead
}

// onRound tells after how many bits a begins a round at the same place in a round of b again.
func onRound(a Word, b Word) int {
	gain := count(a.round)
	if gain == 0 {
		return len(a.round)
	}
	return common(gain, len(b.round)) / gain * len(a.round)
}

// bothLead tells how many bits it takes till both words are in their rounds.
func bothLead(a Word, b Word) int {
	if len(a.lead) > len(b.lead) {
		return len(a.lead)
	}
	return len(b.lead)
}

// bothRound tells after how many bits both words begin a round at once again.
func bothRound(a Word, b Word) int {
	return common(len(a.round), len(b.round))
}

// common gives the least number above 0 that both divide, or 0 if one of them is below 1.
func common(a int, b int) int {
	if a < 1 || b < 1 {
		return 0
	}
	n := a
	for n%b != 0 {
		n += a
	}
	return n
}

func digit(one bool) byte {
	if one {
		return '1'
	}
	return '0'
}
