package tower_test

import (
	"math"
	"math/big"
	"slices"
	"testing"

	"galloon/api"
	"galloon/tower"
)

// top is the greatest number to which bumping may lead.
func top() *big.Int {
	return new(big.Int).Lsh(big.NewInt(1), 60)
}

// hereditary returns the ordinal of m in a base: it takes away the greatest power, as often as possible.
func hereditary(m *big.Int, base int64) ord {
	var a ord
	m = new(big.Int).Set(m)
	for m.Sign() > 0 {
		exponent := int64(0)
		power := big.NewInt(1)
		for {
			next := new(big.Int).Mul(power, big.NewInt(base))
			if next.Cmp(m) > 0 {
				break
			}
			power = next
			exponent++
		}
		digit := 0
		for m.Cmp(power) >= 0 {
			m.Sub(m, power)
			digit++
		}
		a = append(a, term{hereditary(big.NewInt(exponent), base), digit})
	}
	return a
}

// valueAt returns the number that arises if each w is replaced by a base, or nil if it is far beyond 2^60.
func valueAt(a ord, base int64) *big.Int {
	sum := new(big.Int)
	for _, p := range a {
		exponent := valueAt(p.exponent, base)
		if exponent == nil || exponent.Cmp(big.NewInt(100)) > 0 {
			return nil
		}
		power := new(big.Int).Exp(big.NewInt(base), exponent, nil)
		sum.Add(sum, power.Mul(power, big.NewInt(int64(p.times))))
	}
	return sum
}

// bumpedOf returns the bumped number, or nil if it is far beyond 2^60.
func bumpedOf(m *big.Int, base int64) *big.Int {
	return valueAt(hereditary(m, base), base+1)
}

// wantBumped checks Bumped, and reports whether it is not full.
func wantBumped(t *testing.T, m, base int) bool {
	t.Helper()
	number, text, e := tower.Bumped(m, base)
	want, ordinal := bumpedOf(big.NewInt(int64(m)), int64(base)), hereditary(big.NewInt(int64(m)), int64(base))
	if want == nil || want.Cmp(top()) > 0 || isFull(ordinal) {
		if number != 0 || text != "" || e != api.ErrFull {
			t.Fatalf("Bumped(%d, %d) = %d, %s, %d, want ErrFull", m, base, number, text, e)
		}
		return false
	}
	if int64(number) != want.Int64() || text != ordinal.String() || e != api.OK {
		t.Fatalf("Bumped(%d, %d) = %d, %s, %d, want %v, %v", m, base, number, text, e, want, ordinal)
	}
	return true
}

// P5.3: Bumped, for small numbers, and for others up to the limits.
func TestBumpedByDefinition(t *testing.T) {
	count := map[bool]int{}
	for base := 2; base <= 12; base++ {
		for m := range 600 {
			count[wantBumped(t, m, base)]++
		}
	}
	for _, base := range []int{2, 3, 4, 5, 7, 10, 16, 31, 99, 100, 101, 501, 998, 999, 1000} {
		for m := 600; m <= api.MaxGood; m += 7919 {
			count[wantBumped(t, m, base)]++
		}
		for power := base; power <= api.MaxGood; power *= base {
			count[wantBumped(t, power-1, base)]++
			count[wantBumped(t, power, base)]++
			count[wantBumped(t, min(power+1, api.MaxGood), base)]++
		}
		count[wantBumped(t, api.MaxGood, base)]++
	}
	if count[true] < 1000 || count[false] < 100 {
		t.Errorf("%d numbers are not full, %d are", count[true], count[false])
	}
}

// P5.3: digits, exponents of exponents, and the limits of the arguments.
func TestEdgesOfBumped(t *testing.T) {
	const ww = "w^(w^(w^(0)*1)*1)*1"
	for _, c := range []struct {
		m, base, number int
		text            string
		errno           api.Errno
	}{
		{0, 2, 0, "0", api.OK}, {0, 1000, 0, "0", api.OK}, {1, 2, 1, one, api.OK}, {2, 2, 3, w, api.OK}, {3, 2, 4, w + "+" + one, api.OK}, {4, 2, 27, ww, api.OK},
		{5, 2, 28, ww + "+" + one, api.OK}, {2, 3, 2, two, api.OK}, {3, 3, 4, w, api.OK}, {9, 3, 16, "w^(w^(0)*2)*1", api.OK}, {27, 3, 256, ww, api.OK}, {54, 3, 512, "w^(" + w + ")*2", api.OK},
		{999, 1000, 999, "w^(0)*999", api.OK}, {1000, 1000, 1001, w, api.OK}, {1001, 1000, 1002, w + "+" + one, api.OK}, {999999, 1000, 999*1001 + 999, "w^(w^(0)*1)*999+w^(0)*999", api.OK},
		{1000000, 1000, 1002001, "w^(w^(0)*2)*1", api.OK}, {1000000, 999, 1002001, "w^(w^(0)*2)*1+w^(w^(0)*1)*2+" + one, api.OK},
		{16, 2, 7625597484987, "w^(" + ww + ")*1", api.OK}, {255, 2, 854066918318656, hereditary(big.NewInt(255), 2).String(), api.OK}, {256, 2, 0, "", api.ErrFull}, {1000000, 2, 0, "", api.ErrFull}, {65536, 2, 0, "", api.ErrFull},
		{-1, 2, 0, "", api.ErrArg}, {1000001, 2, 0, "", api.ErrArg}, {math.MinInt, 2, 0, "", api.ErrArg}, {math.MaxInt, 2, 0, "", api.ErrArg},
		{0, 1, 0, "", api.ErrArg}, {5, 0, 0, "", api.ErrArg}, {5, -2, 0, "", api.ErrArg}, {5, 1001, 0, "", api.ErrArg}, {5, math.MinInt, 0, "", api.ErrArg}, {5, math.MaxInt, 0, "", api.ErrArg},
		{1000000, 1, 0, "", api.ErrArg}, {1000001, 1001, 0, "", api.ErrArg},
	} {
		number, text, e := tower.Bumped(c.m, c.base)
		if number != c.number || e != c.errno || text != c.text {
			t.Errorf("Bumped(%d, %d) = %d, %s, %d, want %d, %s, %d", c.m, c.base, number, text, e, c.number, c.text, c.errno)
		}
	}
}

// goodsteinOf returns the numbers and the ordinals, and false if they are full.
func goodsteinOf(m, steps int) ([]int, []string, bool) {
	var numbers []int
	var texts []string
	number := big.NewInt(int64(m))
	for i := range steps + 1 {
		base := int64(2 + i)
		a := hereditary(number, base)
		if isFull(a) || number.Cmp(top()) > 0 {
			return nil, nil, false
		}
		numbers = append(numbers, int(number.Int64()))
		texts = append(texts, a.String())
		if number.Sign() == 0 || i == steps {
			break
		}
		if number = bumpedOf(number, base); number == nil {
			return nil, nil, false
		}
		number = new(big.Int).Sub(number, big.NewInt(1))
	}
	return numbers, texts, true
}

// P5.3 and P5.5: Goodstein, for small numbers and for large ones; the ordinals descend strictly.
func TestGoodsteinByDefinition(t *testing.T) {
	whole := 0
	for i := range 220 {
		m := i
		if i >= 20 {
			m = 20 + (i-20)*(i-20)*25
		}
		for steps := range api.MaxSteps + 1 {
			numbers, texts, e := tower.Goodstein(m, steps)
			wantNumbers, wantTexts, ok := goodsteinOf(m, steps)
			if !ok {
				if len(numbers) != 0 || len(texts) != 0 || e != api.ErrFull {
					t.Fatalf("Goodstein(%d, %d) = %v, %v, %d, want ErrFull", m, steps, numbers, texts, e)
				}
				continue
			}
			if !slices.Equal(numbers, wantNumbers) || !slices.Equal(texts, wantTexts) || e != api.OK {
				t.Fatalf("Goodstein(%d, %d) = %v, %v, %d, want %v, %v", m, steps, numbers, texts, e, wantNumbers, wantTexts)
			}
			for i := 1; i < len(texts); i++ {
				if c, _ := tower.Compare(texts[i], texts[i-1]); c != -1 {
					t.Fatalf("Goodstein(%d, %d): %v does not descend", m, steps, texts)
				}
			}
			whole++
		}
	}
	if whole < 500 {
		t.Errorf("%d lists only are not full", whole)
	}
}

// P5.3: beginnings that are known, ends, and the limits of the arguments.
func TestEdgesOfGoodstein(t *testing.T) {
	for _, c := range []struct {
		m, steps int
		numbers  []int
		errno    api.Errno
	}{
		{0, 0, []int{0}, api.OK}, {0, 50, []int{0}, api.OK}, {1, 0, []int{1}, api.OK}, {1, 1, []int{1, 0}, api.OK}, {1, 50, []int{1, 0}, api.OK}, {2, 50, []int{2, 2, 1, 0}, api.OK},
		{3, 5, []int{3, 3, 3, 2, 1, 0}, api.OK}, {3, 50, []int{3, 3, 3, 2, 1, 0}, api.OK}, {3, 4, []int{3, 3, 3, 2, 1}, api.OK}, {4, 0, []int{4}, api.OK},
		{4, 10, []int{4, 26, 41, 60, 83, 109, 139, 173, 211, 253, 299}, api.OK}, {5, 3, []int{5, 27, 255, 467}, api.OK}, {1000000, 1, nil, api.ErrFull},
		// The ordinals of these two have the sizes 60 and 61.
		{smallestOfSize(60), 0, []int{smallestOfSize(60)}, api.OK}, {smallestOfSize(61), 0, nil, api.ErrFull},
		{-1, 0, nil, api.ErrArg}, {1000001, 0, nil, api.ErrArg}, {math.MinInt, 0, nil, api.ErrArg}, {math.MaxInt, 0, nil, api.ErrArg},
		{0, -1, nil, api.ErrArg}, {0, 51, nil, api.ErrArg}, {3, math.MinInt, nil, api.ErrArg}, {3, math.MaxInt, nil, api.ErrArg}, {1000000, 51, nil, api.ErrArg}, {-1, -1, nil, api.ErrArg},
	} {
		numbers, texts, e := tower.Goodstein(c.m, c.steps)
		if !slices.Equal(numbers, c.numbers) || len(texts) != len(c.numbers) || e != c.errno {
			t.Errorf("Goodstein(%d, %d) = %v, %v, %d, want %v, %d", c.m, c.steps, numbers, texts, e, c.numbers, c.errno)
		}
	}
}

// smallestOfSize returns the smallest number whose ordinal in base 2 has a size.
func smallestOfSize(size int) int {
	for m := 0; ; m++ {
		if sizeOf(hereditary(big.NewInt(int64(m)), 2)) == size {
			return m
		}
	}
}
