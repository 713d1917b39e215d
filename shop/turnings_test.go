package shop_test

import (
	"fmt"
	"strings"
	"testing"

	"galloon/api"
	"galloon/shop"
)

// knownTurnings are wares with their names, an act that makes z, and the arguments that make z, too, or its error by its number.
var knownTurnings = []struct{ x, y, line, made string }{
	{"braid abca", "", "closure x z", "abcacba"},
	{"braid abba", "", "closure x z", "abba"},
	{"braid " + strings.Repeat("ab", 50), "", "closure x z", "5"},
	{"braid " + strings.Repeat("a", 99) + "b", "", "closure x z", "5"},
	{"braid " + strings.Repeat("a", 100), "", "closure x z", strings.Repeat("a", 100)},
	{"braid abcd", "", "tower x z", "abacabadabacaba"},
	{"braid abcdabc", "", "tower x z", "5"},
	{"braid aab", "", "tower x z", "aabaa"},
	{"cut 1 3", "cut 1 2", "between x y z", "2 5"},
	{"cut 0 1", "cut 1 1", "between x y z", "1 2"},
	{"cut 1 2", "cut 1 3", "between x y z", "2"},
	{"cut 1 2", "cut 1 2", "between x y z", "2"},
	{"cut 1 2", "cut 1 2", "between x x z", "2"},
	{"cut 1 1000000", "cut 1 999999", "between x y z", "6"},
	{"cut 999998 999999", "cut 999999 1000000", "between x y z", "6"},
	{"cut 0 1", "cut 1 1000000", "between x y z", "6"},
	{"cut 0 1", "cut 1 999999", "between x y z", "1 1000000"},
	{"deal 7", "", "turned x z", "0,1;-7"},
	{"deal 0,2,1;0,3;-4;5", "", "turned x z", "0,1;0,3,2;0,4;4;-5"},
	{"deal 0" + upTo(1, 59) + strings.Repeat(";0", 59), "", "turned x z", "2"},
	{"deal 0" + upTo(1, 58) + strings.Repeat(";100", 58), "", "turned x z", "0,1;0" + upTo(2, 59) + strings.Repeat(";-100", 58)},
	{"count w^(0)*1", "count w^(w^(0)*1)*1", "sum x y z", "w^(w^(0)*1)*1"},
	{"count w^(0)*1", "count w^(w^(0)*1)*1", "sum y x z", "w^(w^(0)*1)*1+w^(0)*1"},
	{"count w^(0)*1", "count w^(w^(0)*1)*1", "sum y y z", "w^(w^(0)*1)*2"},
	{"count w^(0)*2", "count w^(w^(0)*1)*1", "product x y z", "w^(w^(0)*1)*1"},
	{"count w^(0)*2", "count w^(w^(0)*1)*1", "product y x z", "w^(w^(0)*1)*2"},
	{"count w^(0)*1", "count w^(w^(0)*1)*1", "blend x y z", "w^(w^(0)*1)*1+w^(0)*1"},
	{"count 0", "count 0", "product x y z", "0"},
	{"count w^(0)*1000", "count w^(0)*1", "sum x y z", "5"},
	{"count w^(0)*1000", "count w^(0)*2", "product x y z", "5"},
	{"count w^(0)*1000", "count w^(0)*1", "blend x y z", "5"},
	{"count 0", "", "step x 0 z", "6"},
	{"count 0", "", "step x -1 z", "2"},
	{"count w^(0)*7", "", "step x 1001 z", "2"},
	{"count w^(0)*7", "", "step x 1000 z", "w^(0)*6"},
	{"count w^(0)*1", "", "step x 0 z", "0"},
	{"count w^(w^(0)*1)*1", "", "step x 0 z", "0"},
	{"count w^(w^(0)*1)*2", "", "step x 4 z", "w^(w^(0)*1)*1+w^(0)*4"},
	{"snake ((()))", "", "chop x 0 2 z", "(()()())"},
	{"snake ((()))", "", "chop x 0 0 z", "(())"},
	{"snake (())", "", "chop x 0 1000 z", "()"},
	{"snake ()", "", "chop x 0 0 z", "2"},
	{"snake ((()))", "", "chop x 1 0 z", "2"},
	{"snake ((()))", "", "chop x -1 0 z", "2"},
	{"snake ((()))", "", "chop x 0 1001 z", "2"},
	{"snake ((()))", "", "chop x 0 198 z", "(" + strings.Repeat("()", 199) + ")"},
	{"snake ((()))", "", "chop x 0 199 z", "5"},
	{"snake (()(()()))", "", "chop x 0 3 z", "((()()))"},
	{"snake (()(()()))", "", "chop x 2 1 z", "(()(())(()))"},
	{"seam 2 0,0,0,2,2,2 0,1;1,1;0,1", "", "insert x 1 z", "2 0,0,0,1,2,2,2 0,1;1,2;1,2;0,1"},
	{"seam 1 0,0,1,2,2 0,1;2,1;1,1", "", "insert x 1 z", "1 0,0,1,1,2,2 0,1;2,1;2,1;1,1"},
	{"seam 1 0,0,1,1,2,2 0,1;2,1;2,1;1,1", "", "insert x 1 z", "2"},
	{"seam 1 0,0,1,2,2 0,1;2,1;1,1", "", "insert x 0 z", "2"},
	{"seam 1 0,0,1,2,2 0,1;2,1;1,1", "", "insert x 2 z", "2"},
	{"seam 1 0,0,7,7 0,1;1,1", "", "insert x 1 z", "5"},
	{"seam 0 0,1,2,3,4,5,6,7,8,9,10,11,12,13,14,20" + " 0,1" + strings.Repeat(";0,1", 14), "", "insert x 15 z", "5"},
	{"seam 1 0,0,1,2,2 0,1;2,1;1,1", "", "slope x z", "0 0,1,2 2,1;-1,1"},
	{"seam 0 0,1 1,2", "", "slope x z", "2"},
	{"seam 1 0,0,1,1,2,2 0,1;2,1;2,1;1,1", "", "slope x z", "5"},
	{"seam 1 0,0,7,7 0,1;1,1", "", "slope x z", "5"},
}

// P10.5: what is known is made.
func TestKnownTurnings(t *testing.T) {
	for _, c := range knownTurnings {
		s := shop.New()
		kind, tail, _ := strings.Cut(c.x, " ")
		want(t, s, kind+" x "+tail, "made x")
		if c.y != "" {
			want(t, s, strings.Replace(c.y, " ", " y ", 1), "made y")
		}
		if len(c.made) == 1 && c.made != "0" {
			wantError(t, s, c.line, api.Errno(c.made[0]-'0'))
			continue
		}
		text := s.Text()
		want(t, s, c.line, "made z")
		if expected := text + kind + " z " + c.made + "\n"; s.Text() != expected || s.Kind("z") != kind {
			t.Errorf("%s of\n%s makes\n%s, want\n%s", c.line, text, s.Text(), expected)
		}
		want(t, s, "drop z", "dropped z")
		if s.Text() != text {
			t.Errorf("%s changes\n%s to\n%s", c.line, text, s.Text())
		}
	}
}

// turnings returns acts that turn x, some of them together with y, into z, with many numbers.
func turnings(kind string) []string {
	var lines []string
	for _, text := range forms[kind] {
		switch words := strings.Split(text, " "); {
		case !strings.Contains(text, "NEW"):
		case strings.Contains(text, "OTHER"):
			lines = append(lines, words[0]+" x y z", words[0]+" y x z", words[0]+" x x z")
		case len(words) == 3:
			lines = append(lines, words[0]+" x z")
		case len(words) == 4:
			for _, n := range smallNumbers {
				lines = append(lines, fmt.Sprint(words[0], " x ", n, " z"))
			}
		default:
			for _, head := range []int{-1, 0, 1, 2, 3, 199} {
				for _, n := range smallNumbers {
					lines = append(lines, fmt.Sprint(words[0], " x ", head, " ", n, " z"))
				}
			}
		}
	}
	return lines
}

// P10.5 and P6: wares of all kinds are turned into what the layers make of them; a full shop has no room for it.
func TestTurnings(t *testing.T) {
	for kind, tails := range examples {
		for i, tail := range tails {
			for j, other := range tails {
				lines := turnings(kind)
				if j != i && !strings.Contains(strings.Join(lines, " "), " y ") {
					continue
				}
				s, c, full := shop.New(), newClerk(), shop.New()
				for _, line := range []string{fmt.Sprint(kind, " x ", tail), fmt.Sprint(kind, " y ", other)} {
					s.Do(line)
					c.do(line)
					full.Do(line)
				}
				filled(t, full)
				for _, line := range lines {
					wantTurning(t, s, c, line)
					wantError(t, full, line, api.ErrFull)
				}
			}
		}
	}
}

// wantTurning checks what an act makes of a ware, and removes that.
func wantTurning(t *testing.T, s *shop.Shop, c *clerk, line string) {
	t.Helper()
	text := s.Text()
	expected, expectedErrno := c.do(line)
	if got, errno := s.Do(line); got != expected || errno != expectedErrno || s.Text() != c.text() {
		t.Fatalf("%s of\n%s: %q, %d, and now\n%s, want %q, %d and\n%s", line, text, got, errno, s.Text(), expected, expectedErrno, c.text())
	}
	if expectedErrno == api.OK {
		want(t, s, "drop z", "dropped z")
		c.do("drop z")
	}
}

// P10.5: a ware that is dropped is gone, and its name is free; what was made of it stays.
func TestDrops(t *testing.T) {
	for _, kind := range kinds {
		for i, tail := range examples[kind] {
			s := shop.New()
			want(t, s, fmt.Sprint(kind, " x ", tail), "made x")
			want(t, s, fmt.Sprint(kind, " y ", examples[kind][0]), "made y")
			want(t, s, "drop x", "dropped x")
			wantError(t, s, "drop x", api.ErrNone)
			for _, line := range append(questions(kind), turnings(kind)...) {
				wantError(t, s, line, api.ErrNone)
			}
			if names := fmt.Sprint(s.Names()); names != "[y]" || s.Kind("x") != "" || s.Text() != fmt.Sprint(kind, " y ", examples[kind][0], "\n") {
				t.Fatalf("%s %s is dropped: %s", kind, tail, state(s))
			}
			other := kinds[i%len(kinds)]
			want(t, s, fmt.Sprint(other, " x ", examples[other][0]), "made x")
			if s.Kind("x") != other || fmt.Sprint(s.Names()) != "[y x]" {
				t.Fatalf("%s x is made: %s", other, state(s))
			}
		}
	}
	s := stocked(t, "braid x ab\n")
	want(t, s, "tower x y", "made y")
	want(t, s, "drop x", "dropped x")
	want(t, s, "closure y x", "made x")
	if s.Text() != "braid y aba\nbraid x aba\n" {
		t.Errorf("the text is %s", s.Text())
	}
}

// P10.7: what tower made is rich.
func TestTowersAreRich(t *testing.T) {
	random := newSource(3, 0)
	made := 0
	for range 400 {
		word := make([]byte, 1+random.IntN(7))
		for i := range word {
			word[i] = "abcd"[random.IntN(4)]
		}
		s := stocked(t, "braid x "+string(word)+"\n")
		if _, errno := s.Do("tower x y"); errno == api.OK {
			want(t, s, "rich y", "rich -1")
			want(t, s, "fewest y", "fewest 1")
			made++
		}
	}
	if made < 100 {
		t.Errorf("only %d towers", made)
	}
}

// P10.7: what between made lies between both cuts.
func TestBetweenLiesBetween(t *testing.T) {
	random := newSource(4, 0)
	made := 0
	for range 3000 {
		b, d := 1+random.IntN(300), 1+random.IntN(300)
		a, c := random.IntN(b+1), random.IntN(d+1)
		s := shop.New()
		s.Do(fmt.Sprint("cut x ", a, " ", b))
		s.Do(fmt.Sprint("cut y ", c, " ", d))
		if _, errno := s.Do("between x y z"); errno != api.OK {
			continue
		}
		var e, f int
		line := strings.Split(s.Text(), "\n")[2]
		if n, err := fmt.Sscanf(line, "cut z %d %d", &e, &f); n != 2 || err != nil || a*f >= e*b || e*d >= c*f {
			t.Fatalf("between %d/%d and %d/%d: %s", a, b, c, d, line)
		}
		made++
	}
	if made < 300 {
		t.Errorf("only %d cuts", made)
	}
}

// P10.7: the measure of what chop made is less than before.
func TestChopsMeasureLess(t *testing.T) {
	random := newSource(5, 0)
	made := 0
	for i := range 60 {
		s := stocked(t, "snake x "+[]string{"((()))", "(()(()))", "((())(()()))", "((()())())"}[i%4]+"\n")
		measure, _ := s.Do("measure x")
		for range 12 {
			if _, errno := s.Do(fmt.Sprint("chop x ", random.IntN(3), " ", random.IntN(3), " y")); errno != api.OK {
				continue
			}
			now, errno := s.Do("measure y")
			if errno != api.OK {
				break
			}
			want(t, s, "count n "+strings.Fields(now)[1], "made n")
			want(t, s, "count m "+strings.Fields(measure)[1], "made m")
			want(t, s, "order n m", "order -1")
			s.Do("drop n")
			s.Do("drop m")
			s.Do("drop x")
			line := s.Text()
			want(t, s, "snake x "+strings.Fields(line)[2], "made x")
			s.Do("drop y")
			measure = now
			made++
		}
	}
	if made < 100 {
		t.Errorf("only %d chops", made)
	}
}

// P10.7: insert keeps the area.
func TestInsertsKeepTheArea(t *testing.T) {
	made := 0
	for _, tail := range examples["seam"] {
		for knot := range 21 {
			s := stocked(t, "seam x "+tail+"\n")
			if _, errno := s.Do(fmt.Sprint("insert x ", knot, " y")); errno != api.OK {
				continue
			}
			before, _ := s.Do("area x")
			want(t, s, "area y", before)
			made++
		}
	}
	if made < 10 {
		t.Errorf("only %d knots", made)
	}
}
