package shop_test

import (
	"fmt"
	"strings"
	"testing"

	"galloon/api"
	"galloon/shop"
)

// knownAnswers are wares, and what they answer, an error by its number.
var knownAnswers = []struct {
	ware    string
	answers [][2]string
}{
	{"braid b abba", [][2]string{{"palindromes x", "palindromes a;b;bb;abba"}, {"rich x", "rich -1"}, {"fewest x", "fewest 1"}, {"inner x", "inner abba"}}},
	{"braid b dcba", [][2]string{{"palindromes x", "palindromes a;b;c;d"}, {"rich x", "rich -1"}, {"fewest x", "fewest 4"}, {"inner x", "inner a"}}},
	{"braid b a", [][2]string{{"palindromes x", "palindromes a"}, {"rich x", "rich -1"}, {"fewest x", "fewest 1"}, {"inner x", "inner a"}}},
	{"braid b aabab", [][2]string{{"fewest x", "fewest 2"}, {"inner x", "inner aaa"}}},
	{"match m 7", [][2]string{{"best x", "best 0 7"}, {"ranked x 0", "ranked 0"}, {"ranked x 1", "2"}, {"narrow x", "narrow 7"}}},
	{"match m 0,0;0,0", [][2]string{{"best x", "best 0,1 0"}, {"ranked x 0", "ranked 0,1"}, {"ranked x 1", "ranked 1,0"}, {"ranked x 2", "2"}, {"ranked x -1", "2"}, {"narrow x", "narrow 0"}}},
	{"match m -5,9,9;9,9,-5;9,-5,9", [][2]string{{"best x", "best 0,2,1 -15"}, {"narrow x", "narrow -5"}, {"ranked x 0", "ranked 0,2,1"}, {"ranked x 3", "ranked 2,0,1"}, {"ranked x 5", "ranked 2,1,0"}, {"ranked x 6", "2"}}},
	{"cut c 0 1", [][2]string{{"below x 5", "below 0"}, {"beside x 5", "6"}, {"beside x 0", "2"}, {"beside x 301", "2"}, {"path x", "2"}, {"saw x", "saw 0 1"}}},
	{"cut c 1 1", [][2]string{{"below x 5", "below 10"}, {"below x 1", "below 1"}, {"beside x 5", "6"}, {"path x", "2"}, {"saw x", "saw 0 1"}}},
	{"cut c 1 2", [][2]string{{"below x 5", "below 5"}, {"below x 1", "below 1"}, {"below x 0", "2"}, {"below x 301", "2"}, {"beside x 1", "beside 0/1 1/1"}, {"path x", "path -"}, {"saw x", "saw 0 1"}}},
	{"cut c 2 3", [][2]string{{"beside x 4", "beside 1/2 3/4"}, {"path x", "path R"}, {"saw x", "saw -1 18"}}},
	{"cut c 1 300", [][2]string{{"beside x 300", "beside 0/1 1/299"}, {"path x", "5"}}},
	{"cut c 1 1001", [][2]string{{"saw x", "2"}, {"path x", "5"}, {"below x 300", "below 1"}}},
	{"cut c 1 202", [][2]string{{"path x", "path " + strings.Repeat("L", 200)}}},
	{"deal d 7", [][2]string{{"value x", "value 7"}, {"line x", "line 0"}, {"visits x", "visits 1"}, {"proof x 7", "proof 1"}, {"proof x -1000", "proof 1"}, {"proof x 8", "6"}, {"proof x 1000", "6"}, {"proof x 1001", "2"}, {"proof x -1001", "2"}}},
	{"deal d 0,1,2;0,3,4;0,5,6;3;5;2;9", [][2]string{{"value x", "value 3"}, {"line x", "line 0,1,3"}, {"visits x", "visits 3"}, {"proof x 3", "proof 2"}, {"proof x 4", "6"}}},
	{"deal d 0,1,2,3;-1;0,4;0,5,6;-4;-1;6", [][2]string{{"value x", "value -1"}, {"line x", "line 0,1"}, {"visits x", "visits 3"}, {"proof x -1", "proof 1"}, {"proof x 0", "6"}}},
	{"count o 0", [][2]string{{"order x x", "order 0"}, {"descent x 0", "descent 1"}, {"descent x -1", "2"}, {"descent x 1001", "2"}}},
	{"count o w^(w^(0)*1)*1", [][2]string{{"order x x", "order 0"}, {"descent x 0", "descent 2"}, {"descent x 3", "descent 5"}, {"descent x 298", "descent 300"}, {"descent x 299", "5"}, {"descent x 1000", "5"}}},
	{"snake s ()", [][2]string{{"heads x", "heads 0"}, {"measure x", "measure 0"}}},
	{"snake s (()(()()))", [][2]string{{"heads x", "heads 3"}, {"measure x", "measure w^(w^(0)*2)*1+w^(0)*1"}}},
	{"snake s " + strings.Repeat("(", 70) + strings.Repeat(")", 70), [][2]string{{"heads x", "heads 1"}, {"measure x", "5"}}},
	{"mix y 4 -", [][2]string{{"values x", "values 0,0,0,0"}, {"permutes x", "permutes 0"}}},
	{"mix y 3 1,2", [][2]string{{"values x", "values 1,0,2"}, {"permutes x", "permutes 1"}}},
	{"mix y 3 0,0,1", [][2]string{{"values x", "values 0,1,1"}, {"permutes x", "permutes 0"}}},
	{"lot l 1 0", [][2]string{{"balance x", "balance 1/1"}, {"rank x", "rank 1"}, {"chance x 0", "chance 1/1"}, {"chance x 8", "chance 1/1"}, {"chance x 9", "2"}, {"chance x -1", "2"}}},
	{"lot l 1,1 0,0,1;1,2,2", [][2]string{{"balance x", "balance 1/3 1/3 1/3"}, {"rank x", "rank 1"}, {"chance x 0", "chance 0/1"}, {"chance x 1", "chance 0/1"}, {"chance x 2", "chance 1/2"}}},
	{"lot l 1 1,0", [][2]string{{"balance x", "balance 1/2 1/2"}, {"rank x", "rank 2"}, {"chance x 8", "chance 0/1"}}},
	{"lot l 1 0,1", [][2]string{{"balance x", "6"}, {"rank x", "rank 2"}}},
	{"lot l 9 1,1", [][2]string{{"balance x", "balance 0/1 1/1"}, {"rank x", "rank 1"}, {"chance x 1", "chance 1/1"}}},
	{"seam k 1 0,0,1,2,2 0,1;2,1;1,1", [][2]string{{"at x 1 2", "at 1/1"}, {"at x 3 2", "at 3/2"}, {"at x 2 1", "at 1/1"}, {"at x 0 1", "at 0/1"}, {"at x 1 12", "at 1/6"}, {"at x 1 13", "2"}, {"at x 2 4", "2"}, {"at x 0 2", "2"}, {"at x 5 2", "2"}, {"at x -1 2", "2"}, {"at x 1 0", "2"}, {"area x", "area 5/2"}}},
	{"seam k 0 0,1,3 1,2;-5,3", [][2]string{{"at x 1 1", "at -5/3"}, {"at x 11 12", "at 1/2"}, {"area x", "area -17/6"}}},
	{"rest v 5 -", [][2]string{{"boxes x", "boxes 0"}, {"weight x", "weight 0 0"}, {"full x", "full 0"}}},
	{"rest v 10 4,4,4", [][2]string{{"boxes x", "boxes 2"}, {"weight x", "weight 2 0"}, {"full x", "full 1"}}},
	{"rest v 10 6,5,6", [][2]string{{"boxes x", "boxes 3"}, {"weight x", "weight 3 5"}, {"full x", "full 1"}}},
	{"rest v 10 9,9,9,9", [][2]string{{"boxes x", "boxes 4"}, {"weight x", "weight 4 0"}, {"full x", "full 2"}}},
}

// P10.4: what is known is said.
func TestKnownAnswers(t *testing.T) {
	for _, c := range knownAnswers {
		s := shop.New()
		words := strings.SplitN(c.ware, " ", 3)
		want(t, s, words[0]+" x "+words[2], "made x")
		text := s.Text()
		for _, answer := range c.answers {
			if len(answer[1]) == 1 {
				wantError(t, s, answer[0], api.Errno(answer[1][0]-'0'))
			} else {
				want(t, s, answer[0], answer[1])
			}
		}
		if s.Text() != text || len(s.Names()) != 1 {
			t.Errorf("%s changes to %s", text, s.Text())
		}
	}
}

// P10.4 and P6: all questions to wares of all kinds are answered as the layers answer them, and change no ware.
func TestAnswers(t *testing.T) {
	for kind, tails := range examples {
		for _, tail := range tails {
			s, c := shop.New(), newClerk()
			for _, line := range []string{fmt.Sprint(kind, " x ", tail), fmt.Sprint(kind, " y ", tails[0]), fmt.Sprint(kind, " z ", tails[1])} {
				s.Do(line)
				c.do(line)
			}
			text := s.Text()
			for _, line := range questions(kind) {
				expected, expectedErrno := c.do(line)
				if got, errno := s.Do(line); got != expected || errno != expectedErrno {
					t.Fatalf("%s of %s %.100s: %q, %d, want %q, %d", line, kind, tail, got, errno, expected, expectedErrno)
				}
			}
			if s.Text() != text {
				t.Fatalf("%s changes to %s", text, s.Text())
			}
		}
	}
}

// questions returns questions to the ware x of a kind, some of them also to y and z, with many numbers.
func questions(kind string) []string {
	var lines []string
	for _, text := range forms[kind] {
		switch words := strings.Split(text, " "); {
		case strings.Contains(text, "NEW"):
		case strings.Contains(text, "OTHER"):
			lines = append(lines, words[0]+" x y", words[0]+" y x", words[0]+" x z", words[0]+" z x", words[0]+" x x")
		case len(words) == 2:
			lines = append(lines, words[0]+" x")
		case len(words) == 3:
			for _, n := range smallNumbers {
				lines = append(lines, fmt.Sprint(words[0], " x ", n))
			}
		default:
			for i := range smallNumbers {
				for _, den := range smallNumbers[:12] {
					lines = append(lines, fmt.Sprint(words[0], " x ", smallNumbers[i], " ", den))
				}
			}
		}
	}
	return lines
}

// P10.4: a full shop answers, too.
func TestAnswersOfFullShops(t *testing.T) {
	s := filled(t, stocked(t, stock))
	for _, c := range rightActs {
		if f := allForms()[strings.Fields(c[0])[0]]; f.kind != "" && !strings.Contains(strings.Join(f.places, " "), "NEW") {
			want(t, s, c[0], c[1])
		}
	}
}
