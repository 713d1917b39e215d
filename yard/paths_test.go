package yard_test

import (
	"slices"
	"strings"
	"testing"

	"galloon/api"
	"galloon/yard"
)

// pathOf returns the path of f, however long it is.
func pathOf(f api.Frac) string {
	var path strings.Builder
	low, high := of(0, 1), of(1, 1)
	for {
		middle := of(low.Num+high.Num, low.Den+high.Den)
		switch {
		case middle == f:
			return path.String()
		case less(f, middle):
			path.WriteByte('L')
			high = middle
		default:
			path.WriteByte('R')
			low = middle
		}
	}
}

func checkPath(t *testing.T, f api.Frac, want string) {
	t.Helper()
	path, e := yard.Path(f)
	if len(want) > api.MaxPath {
		if e != api.ErrFull || path != "" {
			t.Fatalf("Path(%v) = %q, %d, want ErrFull", f, path, e)
		}
		return
	}
	if e != api.OK || path != want {
		t.Fatalf("Path(%v) = %q, %d, want %q", f, path, e, want)
	}
	if g, e := yard.Follow(want); e != api.OK || g != f {
		t.Fatalf("Follow(%q) = %v, %d, want %v", want, g, e, f)
	}
}

// P3.3: Path and Follow of all short paths, and of other fractions.
func TestPathsByDefinition(t *testing.T) {
	for path, f := range treeOf(11) {
		checkPath(t, f, path)
	}
	for _, f := range slices.Concat(rowOf(40), largeFracs()) {
		if f.Den > 1 {
			checkPath(t, f, pathOf(f))
		}
	}
}

// P3.3: the middle of the whole has the empty path, and its ends have none.
func TestEndsOfPaths(t *testing.T) {
	checkPath(t, of(1, 2), "")
	checkPath(t, of(2, 5), "LR")
	for _, f := range []api.Frac{of(0, 1), of(1, 1)} {
		if path, e := yard.Path(f); e != api.ErrArg || path != "" {
			t.Errorf("Path(%v) = %q, %d", f, path, e)
		}
	}
}

// P3.3: paths of MaxPath letters, and of one more.
func TestLongestPaths(t *testing.T) {
	for _, letters := range []int{199, 200, 201, 202, 999} {
		checkPath(t, of(1, letters+2), strings.Repeat("L", letters))
		checkPath(t, of(letters+1, letters+2), strings.Repeat("R", letters))
		checkPath(t, of(letters, 2*letters+1), "L"+strings.Repeat("R", letters-1))
		checkPath(t, of(2, 2*letters+1), strings.Repeat("L", letters-1)+"R")
	}
	checkPath(t, of(100, 100*101+1), strings.Repeat("L", 100)+strings.Repeat("R", 99)) // 199 letters
}

// P3.3: Follow refuses other letters, and more than MaxPath, wherever they stand, and even if the Den is too great as well.
func TestNoPaths(t *testing.T) {
	list := []string{
		"l", "r", "LRl", "rLR", "LxR", " ", "L ", "\n", "\x00", "L\x00", "LR\xff", "\xffLR", "Ł", "LŁR", "0", "-",
		strings.Repeat("L", 201), strings.Repeat("R", 201), strings.Repeat("LR", 101), strings.Repeat("L", 200) + "x",
		strings.Repeat("LR", 99) + "Lx", "x" + strings.Repeat("LR", 99), strings.Repeat("LR", 50) + "x" + strings.Repeat("LR", 40),
		strings.Repeat("x", 200), strings.Repeat("L", 1<<20),
	}
	for _, path := range list {
		if f, e := yard.Follow(path); e != api.ErrArg || f != (api.Frac{}) {
			t.Errorf("Follow(%.210q) = %v, %d", path, f, e)
		}
	}
}

// P3.3: paths to Dens of MaxDen, of a little more, and of so much that they leave the range of int.
func TestDensOfPaths(t *testing.T) {
	for den := 999990; den <= 1000010; den++ {
		seen := 0
		for num := 380000; num < 380040; num++ {
			f := of(num, den)
			if hasCommonFast(num, den) || len(pathOf(f)) > api.MaxPath {
				continue
			}
			seen++
			path := pathOf(f)
			if den <= api.MaxDen {
				checkPath(t, f, path)
			} else if g, e := yard.Follow(path); e != api.ErrFull || g != (api.Frac{}) {
				t.Fatalf("Follow(%q) = %v, %d, but it leads to %v", path, g, e, f)
			}
		}
		if seen == 0 {
			t.Errorf("no path to the Den %d", den)
		}
	}
	for letters := 30; letters <= 200; letters++ {
		for _, pattern := range []string{"LR", "RL", "LLR", "RRL", "LLRR", "LRRRR"} {
			path := strings.Repeat(pattern, letters)[:letters]
			if want := denOf(path); want > api.MaxDen {
				if f, e := yard.Follow(path); e != api.ErrFull || f != (api.Frac{}) {
					t.Errorf("Follow(%q) = %v, %d", path, f, e)
				}
			} else if f, e := yard.Follow(path); e != api.OK || float64(f.Den) != want {
				t.Errorf("Follow(%q) = %v, %d", path, f, e)
			}
		}
	}
}

// denOf returns the Den to which a path leads, as a float: those near MaxDen are exact.
func denOf(path string) float64 {
	low, high := 1.0, 1.0
	for _, letter := range path {
		if letter == 'L' {
			high += low
		} else {
			low += high
		}
	}
	return low + high
}

func hasCommonFast(a, b int) bool {
	return lowest(a, b).Den != b
}
