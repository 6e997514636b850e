package sha

import "math/bits"

// highest is the first bit that a root may have: 32 bits stand behind the point, and three ahead of it, since no root here is 8 or more.
const highest uint64 = 1 << 34

func firstPrimes() [rounds]uint64 {
	var primes [rounds]uint64
	have := 0
search:
	for n := uint64(2); ; n++ {
		for _, p := range primes[:have] {
			if p*p > n {
				break
			}
			if n%p == 0 {
				continue search
			}
		}
		primes[have] = n
		have++
		if have == len(primes) {
			break search
		}
	}
	return primes
}

func firstWords(primes [rounds]uint64) [8]uint32 {
	var words [8]uint32
	for i := range words {
		words[i] = squareRootBits(primes[i])
	}
	return words
}

func roundNumbers(primes [rounds]uint64) [rounds]uint32 {
	var numbers [rounds]uint32
	for i := range numbers {
		numbers[i] = cubeRootBits(primes[i])
	}
	return numbers
}

// The roots are looked for bit by bit in whole numbers, so that nothing is rounded on any machine.
// No prime's root is a whole number: it is enough to hold the high words of the powers against p.

func squareRootBits(p uint64) uint32 {
	var root uint64
	for bit := highest; bit > 0; bit >>= 1 {
		next := root | bit
		if square, _ := bits.Mul64(next, next); square < p {
			root = next
		}
	}
	return uint32(root)
}

func cubeRootBits(p uint64) uint32 {
	var root uint64
	for bit := highest; bit > 0; bit >>= 1 {
		next := root | bit
		high, low := bits.Mul64(next, next)
		carried, _ := bits.Mul64(low, next)
		if high*next+carried < p<<32 {
			root = next
		}
	}
	return uint32(root)
}
