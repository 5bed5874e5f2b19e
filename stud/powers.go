package stud

import (
	"slices"

	"remould/api"
)

// remainders has a place for each remainder modulo a prime, and for each exponent that is less than the prime.
type remainders [api.MaxPrime]int

func isPrime(p int) bool {
	if p < 3 || p > api.MaxPrime {
		return false
	}
	for divisor := 2; divisor < p; divisor++ {
		if p%divisor == 0 {
			return false
		}
	}
	return true
}

// powersOf returns the remainders modulo p of g^0 to g^(p-1).
func powersOf(p, g int) remainders {
	powers := remainders{1}
	for i := range p - 1 {
		powers[i+1] = powers[i] * g % p
	}
	return powers
}

// logsOf returns, for each remainder modulo p, an exponent from 1 to p - 1 by which g leaves it, or 0 if there is none.
func logsOf(p, g int) remainders {
	var logs remainders
	powers := powersOf(p, g)
	for exponent := 1; exponent < p; exponent++ {
		logs[powers[exponent]] = exponent
	}
	return logs
}

// isRoot reports whether g is a root of the prime p.
func isRoot(p, g int) bool {
	if g < 1 || g >= p {
		return false
	}
	logs := logsOf(p, g)
	return !slices.Contains(logs[1:p], 0)
}

// Roots returns all roots of the prime p.
func Roots(p int) ([]int, api.Errno) {
	if !isPrime(p) {
		return nil, api.ErrArg
	}
	var roots []int
	for g := range p {
		if isRoot(p, g) {
			roots = append(roots, g)
		}
	}
	return roots, api.OK
}

// Powers returns the order of p - 1 columns whose rows are powers of the root g from the one with the exponent shift on, each less 1.
func Powers(p, g, shift int) ([]int, api.Errno) {
	if !isPrime(p) || !isRoot(p, g) || shift < 0 || shift > p-2 {
		return nil, api.ErrArg
	}
	powers := powersOf(p, g)
	order := make([]int, p-1)
	for i := range order {
		// The powers of a root repeat after p - 1 of them.
		order[i] = powers[(i+shift)%(p-1)] - 1
	}
	return order, api.OK
}

// Logs returns the order of p - 2 columns in which the exponents of each column and its row, both counted from 1, give powers of the roots g and h with the sum 1 modulo p.
func Logs(p, g, h int) ([]int, api.Errno) {
	if !isPrime(p) || !isRoot(p, g) || !isRoot(p, h) {
		return nil, api.ErrArg
	}
	powers, logs := powersOf(p, g), logsOf(p, h)
	order := make([]int, p-2)
	for i := range order {
		// This power is from 2 to p - 1, and so is the other one, whose exponent is then not p - 1.
		other := p + 1 - powers[i+1]
		order[i] = logs[other] - 1
	}
	return order, api.OK
}
