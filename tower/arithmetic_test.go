package tower_test

import (
	"math"
	"slices"
	"testing"

	"galloon/api"
	"galloon/tower"
)

// joining is a function of two ordinals.
type joining func(a, b string) (string, api.Errno)

// wantText checks a result that is a text.
func wantText(t *testing.T, name string, got string, e api.Errno, want string, wantErrno api.Errno) {
	t.Helper()
	if got != want || e != wantErrno {
		t.Fatalf("%s = %s, %d, want %s, %d", name, got, e, want, wantErrno)
	}
}

// wantJoined checks a function of two ordinals for one pair.
func wantJoined(t *testing.T, name string, f joining, a, b, want ord, full bool) {
	t.Helper()
	text, errno := want.String(), api.OK
	if full {
		text, errno = "", api.ErrFull
	}
	s, e := f(a.String(), b.String())
	wantText(t, name+"("+a.String()+", "+b.String()+")", s, e, text, errno)
}

// pairs calls f for all pairs of small ordinals, and of large ones.
func pairs(f func(a, b ord)) {
	for _, list := range [][]ord{ordinalsUpTo(4, 1, 2), ordinalsUpTo(3, 1, 500, 501, 1000), largeOrdinals()} {
		for _, a := range list {
			for _, b := range list {
				f(a, b)
			}
		}
	}
}

// P5.1: Compare, for all pairs.
func TestCompareByDefinition(t *testing.T) {
	pairs(func(a, b ord) {
		if n, e := tower.Compare(a.String(), b.String()); n != order(a, b) || e != api.OK {
			t.Fatalf("Compare(%v, %v) = %d, %d", a, b, n, e)
		}
	})
}

// P5.1: an ascending list, in which the first difference decides, and the exponents come before the numbers.
func TestOrder(t *testing.T) {
	ascending := []string{
		"0", one, two, "w^(0)*9", "w^(0)*10", "w^(0)*1000", w, w + "+" + one, w + "+w^(0)*1000", "w^(w^(0)*1)*2", "w^(w^(0)*1)*2+" + one, "w^(w^(0)*1)*1000",
		"w^(w^(0)*2)*1", "w^(w^(0)*2)*1+" + one, "w^(w^(0)*2)*1+" + w, "w^(w^(0)*2)*3+" + w, "w^(w^(0)*10)*1", "w^(" + w + ")*1", "w^(" + w + ")*1+w^(0)*5",
		"w^(" + w + ")*2", "w^(" + w + "+" + one + ")*1", "w^(w^(w^(0)*1)*2)*1", "w^(w^(w^(0)*2)*1)*1", "w^(w^(" + w + ")*1)*1", nested(60).String(),
	}
	for i, a := range ascending {
		for j, b := range ascending {
			want := 0
			if i < j {
				want = -1
			} else if i > j {
				want = 1
			}
			if n, e := tower.Compare(a, b); n != want || e != api.OK {
				t.Errorf("Compare(%s, %s) = %d, %d, want %d", a, b, n, e, want)
			}
		}
	}
}

// P5.1: Sum, Product and Blend, for all pairs, with those that are full.
func TestArithmeticByDefinition(t *testing.T) {
	full := map[string]int{}
	pairs(func(a, b ord) {
		s := sumOf(a, b)
		wantJoined(t, "Sum", tower.Sum, a, b, s, isFull(s))
		p, isOver := productOf(a, b)
		wantJoined(t, "Product", tower.Product, a, b, p, isOver)
		m := blendOf(a, b)
		wantJoined(t, "Blend", tower.Blend, a, b, m, isFull(m))
		for name, is := range map[string]bool{"Sum": isFull(s), "Product": isOver, "Blend": isFull(m)} {
			if is {
				full[name]++
			}
		}
	})
	for _, name := range []string{"Sum", "Product", "Blend"} {
		if full[name] < 1000 {
			t.Errorf("%s is full for %d pairs only", name, full[name])
		}
	}
}

// P5.1: what the sum, the product and the blend keep, unite and leave out.
func TestEdgesOfArithmetic(t *testing.T) {
	const w2, ww = "w^(w^(0)*2)*1", "w^(w^(w^(0)*1)*1)*1"
	for _, c := range []struct {
		name       string
		f          joining
		a, b, want string
	}{
		{"Sum", tower.Sum, "0", "0", "0"}, {"Sum", tower.Sum, "0", w, w}, {"Sum", tower.Sum, w, "0", w}, {"Sum", tower.Sum, one, one, two},
		{"Sum", tower.Sum, one, w, w}, {"Sum", tower.Sum, w, one, w + "+" + one}, {"Sum", tower.Sum, w + "+" + one, w, "w^(w^(0)*1)*2"},
		{"Sum", tower.Sum, w2 + "+" + w + "+" + one, w + "+" + two, w2 + "+w^(w^(0)*1)*2+" + two}, {"Sum", tower.Sum, w2 + "+" + one, w, w2 + "+" + w},
		{"Sum", tower.Sum, w2 + "+" + w, ww, ww}, {"Sum", tower.Sum, w, w2 + "+" + w, w2 + "+" + w},
		{"Product", tower.Product, "0", "0", "0"}, {"Product", tower.Product, "0", w, "0"}, {"Product", tower.Product, w, "0", "0"}, {"Product", tower.Product, one, w, w},
		{"Product", tower.Product, w, one, w}, {"Product", tower.Product, two, w, w}, {"Product", tower.Product, w, two, "w^(w^(0)*1)*2"},
		{"Product", tower.Product, w + "+" + one, two, "w^(w^(0)*1)*2+" + one}, {"Product", tower.Product, w + "+" + one, w, w2},
		{"Product", tower.Product, w + "+" + one, w + "+" + two, w2 + "+w^(w^(0)*1)*2+" + one}, {"Product", tower.Product, w, w, w2},
		{"Product", tower.Product, w, ww, ww}, {"Product", tower.Product, ww, w, "w^(" + w + "+" + one + ")*1"}, {"Product", tower.Product, two, "w^(0)*500", "w^(0)*1000"},
		{"Product", tower.Product, "w^(" + one + ")*7+" + two, "w^(" + one + ")*3", "w^(w^(0)*2)*3"},
		{"Blend", tower.Blend, "0", "0", "0"}, {"Blend", tower.Blend, one, w, w + "+" + one}, {"Blend", tower.Blend, w, one, w + "+" + one},
		{"Blend", tower.Blend, w + "+" + one, w, "w^(w^(0)*1)*2+" + one}, {"Blend", tower.Blend, w2 + "+" + two, w + "+" + one, w2 + "+" + w + "+w^(0)*3"},
		{"Rest", tower.Rest, "0", "0", "0"}, {"Rest", tower.Rest, "0", w, w}, {"Rest", tower.Rest, w, w, "0"}, {"Rest", tower.Rest, one, w, w},
		{"Rest", tower.Rest, w + "+" + two, w + "+w^(0)*5", "w^(0)*3"}, {"Rest", tower.Rest, w + "+" + two, "w^(w^(0)*1)*3+" + one, "w^(w^(0)*1)*2+" + one},
		{"Rest", tower.Rest, w, w + "+" + two, two}, {"Rest", tower.Rest, w2 + "+" + one, w2 + "+" + w + "+" + one, w + "+" + one},
	} {
		s, e := c.f(c.a, c.b)
		wantText(t, c.name+"("+c.a+", "+c.b+")", s, e, c.want, api.OK)
	}
}

// P5.1: numbers of 1000 and sizes of 60 are not full; 1001 and 61 are, in exponents as well.
func TestFullArithmetic(t *testing.T) {
	thousand, half := natural(1000), natural(500)
	powerOf := func(exponent ord) ord { return ord{{exponent, 1}} }
	for _, c := range []struct {
		name string
		f    joining
		a, b ord
		full bool
	}{
		{"Sum", tower.Sum, natural(999), natural(1), false}, {"Sum", tower.Sum, thousand, natural(1), true}, {"Sum", tower.Sum, natural(1), thousand, true},
		{"Sum", tower.Sum, thousand, of(w), false}, {"Sum", tower.Sum, thousand, ord{{natural(1), 1000}}, false},
		{"Sum", tower.Sum, nested(59), natural(1), false}, {"Sum", tower.Sum, nested(60), natural(1), true}, {"Sum", tower.Sum, natural(1), nested(60), false},
		{"Sum", tower.Sum, wide(60, 1), natural(1), true}, {"Sum", tower.Sum, wide(59, 1), natural(1), false}, {"Sum", tower.Sum, wide(60, 1), wide(60, 1), false},
		{"Blend", tower.Blend, natural(999), natural(1), false}, {"Blend", tower.Blend, natural(1), thousand, true}, {"Blend", tower.Blend, thousand, of(w), false},
		{"Blend", tower.Blend, natural(1), nested(59), false}, {"Blend", tower.Blend, natural(1), nested(60), true}, {"Blend", tower.Blend, wide(60, 500), wide(60, 500), false},
		{"Blend", tower.Blend, wide(60, 500), wide(59, 501), true},
		{"Product", tower.Product, half, natural(2), false}, {"Product", tower.Product, natural(7), natural(143), true}, {"Product", tower.Product, thousand, thousand, true},
		{"Product", tower.Product, natural(2), ord{{natural(1), 1000}, {nil, 500}}, false}, {"Product", tower.Product, natural(3), ord{{natural(1), 1000}, {nil, 500}}, true},
		{"Product", tower.Product, powerOf(half), powerOf(half), false}, {"Product", tower.Product, powerOf(half), powerOf(natural(501)), true},
		{"Product", tower.Product, powerOf(wide(59, 1)), of(w), false}, {"Product", tower.Product, powerOf(wide(58, 1)), of(w), false},
		{"Product", tower.Product, powerOf(wide(28, 1)), wide(4, 1), false}, {"Product", tower.Product, powerOf(wide(30, 1)), wide(4, 1), true},
		{"Product", tower.Product, nested(30), wide(3, 1), true}, {"Product", tower.Product, nested(29), wide(3, 1), false},
		{"Product", tower.Product, of(w), nested(60), false}, {"Product", tower.Product, nested(60), of(w), true}, {"Product", tower.Product, nested(59), of(w), false},
		{"Product", tower.Product, nested(60), thousand, false}, {"Product", tower.Product, nested(60), nested(60), false},
	} {
		want, isOver := sumOf(c.a, c.b), false
		switch c.name {
		case "Blend":
			want = blendOf(c.a, c.b)
		case "Product":
			want, isOver = productOf(c.a, c.b)
		}
		if c.full != (isOver || isFull(want)) {
			t.Fatalf("%s of %v and %v: the definition says otherwise", c.name, c.a, c.b)
		}
		wantJoined(t, c.name, c.f, c.a, c.b, want, c.full)
	}
}

// P5.1: Rest is what the sum adds; there is none if the first ordinal is greater.
func TestRestByDefinition(t *testing.T) {
	pairs(func(a, b ord) {
		s, e := tower.Rest(a.String(), b.String())
		name := "Rest(" + a.String() + ", " + b.String() + ")"
		if order(a, b) > 0 {
			wantText(t, name, s, e, "", api.ErrNone)
			return
		}
		x, ok := parse(s)
		if e != api.OK || !ok || order(sumOf(a, x), b) != 0 {
			t.Fatalf("%s = %s, %d", name, s, e)
		}
		if whole := sumOf(a, b); !isFull(whole) {
			s, e := tower.Rest(a.String(), whole.String())
			wantText(t, "Rest of a sum", s, e, b.String(), api.OK)
		}
	})
}

// P5.1: Number, for all numbers, and for those that are not from 0 to MaxTimes.
func TestNumber(t *testing.T) {
	for n := range api.MaxTimes + 1 {
		s, e := tower.Number(n)
		wantText(t, "Number", s, e, natural(n).String(), api.OK)
	}
	for _, n := range []int{-1, 1001, math.MinInt, math.MaxInt, -1000} {
		s, e := tower.Number(n)
		wantText(t, "Number", s, e, "", api.ErrArg)
	}
}

// result returns a result that is not full.
func result(t *testing.T, f joining, a, b string) string {
	t.Helper()
	s, e := f(a, b)
	if e != api.OK {
		t.Fatalf("%s, %s: error %d", a, b, e)
	}
	return s
}

// P5.5: the sum and the product are associative, and the product distributes from the left.
func TestPropertiesOfArithmetic(t *testing.T) {
	var list []string
	for _, a := range ordinalsUpTo(3, 1, 2) {
		list = append(list, a.String())
	}
	for _, a := range list {
		for _, b := range list {
			if result(t, tower.Blend, a, b) != result(t, tower.Blend, b, a) {
				t.Fatalf("the blends of %s and %s differ", a, b)
			}
			for _, c := range list {
				for _, f := range []joining{tower.Sum, tower.Product, tower.Blend} {
					if result(t, f, result(t, f, a, b), c) != result(t, f, a, result(t, f, b, c)) {
						t.Fatalf("%s, %s, %s: not associative", a, b, c)
					}
				}
				product := result(t, tower.Product, a, result(t, tower.Sum, b, c))
				if product != result(t, tower.Sum, result(t, tower.Product, a, b), result(t, tower.Product, a, c)) {
					t.Fatalf("%s (%s + %s) = %s", a, b, c, product)
				}
			}
		}
	}
}

// P5.5: the sum grows strictly with its second ordinal; so do the product, if its first one is not 0, and the blend.
func TestGrowthOfArithmetic(t *testing.T) {
	list := ordinalsUpTo(4, 1, 2)
	slices.SortFunc(list, order)
	for _, a := range list {
		for i := 1; i < len(list); i++ {
			for name, f := range map[string]joining{"Sum": tower.Sum, "Product": tower.Product, "Blend": tower.Blend} {
				if name == "Product" && len(a) == 0 {
					continue
				}
				first, second := result(t, f, a.String(), list[i-1].String()), result(t, f, a.String(), list[i].String())
				if n, e := tower.Compare(first, second); n != -1 || e != api.OK {
					t.Fatalf("%s of %v does not grow from %v to %v: %s, %s", name, a, list[i-1], list[i], first, second)
				}
			}
		}
	}
}
