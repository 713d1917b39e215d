package shop_test

import (
	"fmt"
	"strings"
	"testing"

	"galloon/api"
	"galloon/shop"
)

// P10.3: what its layer calls so is made, and its line is the one that makes it.
func TestMakings(t *testing.T) {
	for _, kind := range kinds {
		s, lines := shop.New(), ""
		for i, tail := range examples[kind] {
			name := strings.Repeat("x", 1+i)
			line := fmt.Sprintf("%s %s %s", kind, name, tail)
			want(t, s, line, "made "+name)
			lines += line + "\n"
			if s.Kind(name) != kind || s.Text() != lines {
				t.Fatalf("%s makes a %q, and the text\n%s", line, s.Kind(name), s.Text())
			}
		}
	}
}

// P10.3: what its layer does not call so is not made, be the shop empty, filled in part or full.
func TestWrongMakings(t *testing.T) {
	few, full := stocked(t, stock), filled(t, stocked(t, stock))
	for _, kind := range kinds {
		for _, tail := range wrong[kind] {
			wantError(t, shop.New(), kind+" new "+tail, api.ErrArg)
			wantError(t, few, kind+" new "+tail, api.ErrArg)
			wantError(t, full, kind+" new "+tail, api.ErrArg)
			wantError(t, few, kind+" b "+tail, api.ErrArg)
		}
	}
}

// P10.3: a name is taken as long as its ware is there, whatever its kind is.
func TestTakenNames(t *testing.T) {
	few, full := stocked(t, stock), filled(t, stocked(t, stock))
	for _, kind := range kinds {
		for _, tail := range examples[kind] {
			for _, name := range stocked(t, stock).Names() {
				wantError(t, few, fmt.Sprint(kind, " ", name, " ", tail), api.ErrArg)
				wantError(t, full, fmt.Sprint(kind, " ", name, " ", tail), api.ErrArg)
			}
			want(t, few, fmt.Sprint(kind, " new ", tail), "made new")
			wantError(t, few, fmt.Sprint(kind, " new ", tail), api.ErrArg)
			want(t, few, "drop new", "dropped new")
		}
	}
}

// P10.3: a shop has room for 32 wares, of all kinds together.
func TestFullShops(t *testing.T) {
	for _, kind := range kinds {
		for i, tail := range examples[kind] {
			s := shop.New()
			for n := range 32 {
				name := fmt.Sprintf("%c%c", 'a'+n%26, 'a'+n/26)
				want(t, s, fmt.Sprint(kind, " ", name, " ", tail), "made "+name)
			}
			other := kinds[i%len(kinds)]
			wantError(t, s, fmt.Sprint(kind, " new ", tail), api.ErrFull)
			wantError(t, s, fmt.Sprint(other, " new ", examples[other][0]), api.ErrFull)
			wantError(t, s, fmt.Sprint(kind, " aa ", tail), api.ErrArg)
			wantError(t, s, fmt.Sprint(other, " new ", wrong[other][0]), api.ErrArg)
			wantError(t, s, "rest new 5 - ", api.ErrSyntax)
			want(t, s, "drop ba", "dropped ba")
			want(t, s, fmt.Sprint(other, " new ", examples[other][0]), "made new")
			wantError(t, s, fmt.Sprint(kind, " ba ", tail), api.ErrFull)
			if len(s.Names()) != 32 {
				t.Fatalf("%d wares", len(s.Names()))
			}
		}
	}
}

// P10.3: what a line describes is what is made.
func TestWhatIsMade(t *testing.T) {
	s := shop.New()
	for _, c := range [][2]string{
		{"braid a aabab", "made a"}, {"palindromes a", "palindromes a;b;aa;aba;bab"},
		{"match m 4,1;2,8", "made m"}, {"best m", "best 1,0 3"},
		{"cut c 2 7", "made c"}, {"beside c 7", "beside 1/4 1/3"},
		{"deal d 0,2,1;5;-5", "made d"}, {"line d", "line 0,1"}, {"value d", "value 5"},
		{"deal e 0,2,1;4;4", "made e"}, {"line e", "line 0,2"}, {"deal f 0,2,1;4;5", "made f"}, {"line f", "line 0,2"}, {"value f", "value 5"},
		{"count o w^(0)*7", "made o"}, {"descent o 0", "descent 8"},
		{"snake s (()())", "made s"}, {"heads s", "heads 2"},
		{"mix x 5 1,0,2", "made x"}, {"values x", "values 1,3,4,4,3"},
		{"lot l 1,3 0,0;1,1", "made l"}, {"balance l", "balance 1/4 3/4"},
		{"seam k 0 0,1,3 1,2;-5,3", "made k"}, {"at k 0 1", "at 1/2"}, {"at k 3 1", "at -5/3"}, {"area k", "area -17/6"},
		{"rest r 9 4,5,9", "made r"}, {"boxes r", "boxes 2"}, {"full r", "full 2"},
	} {
		want(t, s, c[0], c[1])
	}
}
