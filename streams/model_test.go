package streams_test

import (
	"math/rand"
	"strings"
)

// This is the document's meaning of words, told bit by bit and in the slowest way: the tests hold the calls against it.

// parts cuts a word that is one into its two parts.
func parts(w string) (string, string) {
	u, rest, _ := strings.Cut(w, "(")
	return u, strings.TrimSuffix(rest, ")")
}

// spell writes down the first n bits of a word.
func spell(w string, n int) string {
	u, v := parts(w)
	return (u + strings.Repeat(v, n/len(v)+1))[:n]
}

// shortest finds the normal form of bits that were spelled far enough: at least twice as many as both parts together.
func shortest(bits string) string {
	for p := 1; p < len(bits); p++ {
		for l := 0; 2*(l+p) <= len(bits); l++ {
			if bits[l:len(bits)-p] == bits[l+p:] {
				return bits[:l] + "(" + bits[l:l+p] + ")"
			}
		}
	}
	return "the bits have no round"
}

func turned(a string) string {
	return strings.NewReplacer("0", "1", "1", "0").Replace(a)
}

func joined(a, b string) string {
	bits := []byte(a)
	for n := range bits {
		bits[n] = max(a[n], b[n])
	}
	return string(bits)
}

func thinned(a, b string) string {
	bits := []byte(a)
	k := 0
	for n := range bits {
		if a[n] == '1' {
			bits[n] = b[k]
			k++
		}
	}
	return string(bits)
}

// sameRate compares the shares of ones in the second parts.
func sameRate(a, b string) bool {
	_, v := parts(a)
	_, w := parts(b)
	return strings.Count(v, "1")*len(w) == strings.Count(w, "1")*len(v)
}

// spread tells the least and the greatest of a's ones(n) less b's, as far as the bits go.
func spread(a, b string) (int, int) {
	least, most, gap := 0, 0, 0
	for n := range a {
		gap += int(a[n]) - int(b[n])
		least, most = min(least, gap), max(most, gap)
	}
	return least, most
}

// allParts has every list of at most n bits.
func allParts(n int) []string {
	all := []string{""}
	for k := 0; len(all[k]) < n; k++ {
		all = append(all, all[k]+"0", all[k]+"1")
	}
	return all
}

// allWords has every word of parts of at most n characters.
func allWords(n int) []string {
	var all []string
	for _, u := range allParts(n) {
		for _, v := range allParts(n)[1:] {
			all = append(all, u+"("+v+")")
		}
	}
	return all
}

// someWord has parts of up to 12 characters; often few ones or few zeros, so that many words are ahead of others.
func someWord(r *rand.Rand) string {
	share := 1 + r.Intn(5)
	some := func(n int) string {
		bits := make([]byte, n)
		for k := range bits {
			bits[k] = '0'
			if r.Intn(6) < share {
				bits[k] = '1'
			}
		}
		return string(bits)
	}
	return some(r.Intn(13)) + "(" + some(1+r.Intn(12)) + ")"
}
