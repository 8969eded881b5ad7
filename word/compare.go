package word

// Ahead tells whether at every n the ones of a among the first n bits are at least those of b.
func Ahead(a Word, b Word) bool {
	// If b gains on a in each round it overtakes a at some time; if not, the later rounds are no worse than the first.
	if drift(a, b) < 0 {
		return false
	}
	least, _ := gaps(a, b)
	return least >= 0
}

// Size tells what a buffer must hold if numbers come by a and go by b; false if a does not adapt to b.
func Size(a Word, b Word) (int, bool) {
	if drift(a, b) != 0 {
		return 0, false
	}
	least, most := gaps(a, b)
	if least < 0 {
		return 0, false
	}
	return most, true
}

// drift is above 0 if the rate of a is the greater one, 0 if the rates are the same.
func drift(a Word, b Word) int {
	return count(a.round)*len(b.round) - count(b.round)*len(a.round)
}

// gaps tells the least and the greatest of the ones of a less those of b, till both words have begun a round at once again.
func gaps(a Word, b Word) (int, int) {
	total := bothLead(a, b) + bothRound(a, b)
	least, most, gap := 0, 0, 0
	for n := 0; n < total; n++ {
		if a.Bit(n) {
			gap++
		}
		if b.Bit(n) {
			gap--
		}
		if gap < least {
			least = gap
		}
		if gap > most {
			most = gap
		}
	}
	return least, most
}
