package word

// normal gives the word of these bits: the first lead ones once, then the others again and again.
func normal(bits []byte, lead int) Word {
	if lead < 0 || lead >= len(bits) {
		return Word{}
	}
	p := period(bits[lead:])
	// A bit that is like the one a round later may as well belong to the rounds.
	for lead > 0 && bits[lead-1] == bits[lead-1+p] {
		lead--
	}
	return Word{lead: string(bits[:lead]), round: string(bits[lead : lead+p])}
}

// period tells the length of the shortest piece that makes up the round when it is repeated.
func period(round []byte) int {
	for p := 1; p < len(round); p++ {
		if len(round)%p == 0 && repeats(round, p) {
			return p
		}
	}
	return len(round)
}

func repeats(round []byte, p int) bool {
	for n := p; n < len(round); n++ {
		if round[n] != round[n-p] {
			return false
		}
	}
	return true
}
