package yard

import "galloon/api"

// Saw returns the saw of f in lowest terms: a number and its divisor.
func Saw(f api.Frac) (int, int, api.Errno) {
	if !isValid(f) || f.Den > api.MaxSaw {
		return 0, 0, api.ErrArg
	}
	k := f.Den
	sum := [2]int{0, 2 * k * 2 * k}
	// Neither i/k nor h i/k is whole, so that s of both is the remainder, divided by k, minus 1/2.
	for i := 1; i < k; i++ {
		sum[0] += (2*i - k) * (2*(f.Num*i%k) - k)
	}
	common := divisor(sum[0], sum[1])
	return sum[0] / common, sum[1] / common, api.OK
}
