package tower

import (
	"testing"

	"galloon/api"
)

// P1: no panic leaves a function, whatever its reason is.
func TestGuarded(t *testing.T) {
	for _, c := range []struct {
		work   func() int
		result int
		errno  api.Errno
	}{
		{func() int { return 7 }, 7, api.OK},
		{func() int { panic(api.ErrFull) }, 0, api.ErrFull},
		{func() int { panic(api.ErrSyntax) }, 0, api.ErrSyntax},
		{func() int { return []int{}[len("?")] }, 0, api.ErrArg},
		{func() int { panic("?") }, 0, api.ErrArg},
	} {
		if result, errno := guarded(c.work); result != c.result || errno != c.errno {
			t.Errorf("guarded: %d, %d, want %d, %d", result, errno, c.result, c.errno)
		}
	}
}

// P5.3: 2^60 is not full, and all that is greater is. No argument of Bumped and Goodstein leads close to it.
func TestGreatestNumbers(t *testing.T) {
	for _, c := range []struct {
		a          ordinal
		base, most int
		errno      api.Errno
	}{
		{ordinal{{finite(60), 1}}, 2, maxNumber, api.OK}, {ordinal{{finite(60), 1}}, 2, maxNumber - 1, api.ErrFull}, {ordinal{{finite(61), 1}}, 2, maxNumber, api.ErrFull},
		{ordinal{{finite(60), 1}, {nil, 1}}, 2, maxNumber, api.ErrFull}, {ordinal{{finite(60), 1}, {nil, 1}}, 2, maxNumber + 1, api.OK},
		{ordinal{{finite(59), 1}, {finite(58), 2}}, 2, maxNumber, api.OK}, {ordinal{{finite(59), 2}, {finite(58), 1}}, 2, maxNumber, api.ErrFull},
		{ordinal{{finite(20), 1}}, 8, maxNumber, api.OK}, {ordinal{{finite(20), 1}}, 8, maxNumber - 1, api.ErrFull}, {ordinal{{finite(59), 2}}, 2, maxNumber, api.OK},
		{ordinal{{finite(59), 3}}, 2, maxNumber, api.ErrFull}, {power(power(power(power(power(nil))))), 3, maxNumber, api.ErrFull}, {power(finite(1000)), 1001, maxNumber, api.ErrFull},
	} {
		if n, errno := guarded(func() int { return c.a.at(c.base, c.most) }); errno != c.errno || errno == api.OK && n != c.most {
			t.Errorf("%v at %d: %d, %d", c.a, c.base, n, errno)
		}
	}
}
