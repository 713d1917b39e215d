package shop_test

import (
	"fmt"
	"slices"
	"strings"
	"testing"

	"galloon/shop"
)

// P10.6: the text has the lines that make the wares, in the order in which they were made.
func TestTexts(t *testing.T) {
	s := shop.New()
	text := ""
	for line := range strings.Lines(stock) {
		s.Say(strings.TrimSuffix(line, "\n"))
		text += line
		if s.Text() != text {
			t.Fatalf("the text is\n%s, want\n%s", s.Text(), text)
		}
	}
	for _, c := range [][2]string{
		{"tower b t", "braid t abacabaabacaba\n"}, {"closure b a", "braid a abcacba\n"}, {"between f g h", "cut h 2 5\n"}, {"turned d u", "deal u 0,1;0,2,3;0,4,5;0,6,7;-3;-5;-2;-9\n"}, {"sum w o p", "count p w^(w^(0)*1)*1+w^(0)*1\n"},
		{"product o w q", "count q w^(w^(0)*1)*1\n"}, {"blend o w r", "count r w^(w^(0)*1)*1+w^(0)*1\n"}, {"step w 4 i", "count i w^(0)*4\n"}, {"chop s 0 2 j", "snake j (()()())\n"},
		{"insert k 1 x", "seam x 2 0,0,0,1,2,2,2 0,1;1,2;1,2;0,1\n"}, {"slope k n", "seam n 1 0,0,2,2 1,1;-1,1\n"}, {"mix z 2 -", "mix z 2 -\n"}, {"rest e 5 -", "rest e 5 -\n"},
	} {
		s.Say(c[0])
		text += c[1]
		if s.Text() != text {
			t.Fatalf("after %s the text is\n%s, want\n%s", c[0], s.Text(), text)
		}
	}
	s.Say("drop f")
	s.Say("cut f 0 1")
	if expected := strings.Replace(text, "cut f 1 3\n", "", 1) + "cut f 0 1\n"; s.Text() != expected {
		t.Fatalf("the text is\n%s, want\n%s", s.Text(), expected)
	}
}

// P10.6 and P10.7: played by a new shop, a text makes the same wares, which answer the same.
func TestPlayedTexts(t *testing.T) {
	for seed := range uint64(12) {
		s, c, random := shop.New(), newClerk(), newSource(seed, 50)
		for i := range 400 {
			line := random.line(c)
			s.Say(line)
			c.do(line)
			if i%20 > 0 {
				continue
			}
			text, made := s.Text(), ""
			other := shop.New()
			for _, name := range s.Names() {
				made += "made " + name + "\n"
			}
			if said := shop.Play(text); said != made {
				t.Fatalf("%s is played as\n%s", text, said)
			}
			for line := range strings.Lines(text) {
				other.Say(strings.TrimSuffix(line, "\n"))
			}
			if other.Text() != text || !slices.Equal(other.Names(), s.Names()) {
				t.Fatalf("%s\nleads to\n%s", text, other.Text())
			}
			for range 20 {
				line := random.line(c)
				if f, _, ok := c.arguments(line); !ok || f.kind == "" || strings.Contains(fmt.Sprint(f.places), "NEW") {
					continue
				}
				if said := s.Say(line); other.Say(line) != said {
					t.Fatalf("%s: said %q, not so after\n%s", line, said, text)
				}
				c.do(line)
			}
			if s.Text() != text {
				t.Fatalf("questions change\n%s to\n%s", text, s.Text())
			}
		}
	}
}

// P10.6: what is said ends with a line feed, be it a result or an error.
func TestSay(t *testing.T) {
	s := stocked(t, stock)
	for _, c := range rightActs {
		if said := stocked(t, stock).Say(c[0]); said != c[1]+"\n" {
			t.Errorf("%s: said %q, want %q", c[0], said, c[1])
		}
	}
	for _, c := range []struct{ line, said string }{
		{"rich b", "rich 3\n"}, {"words", "error 4\n"}, {"", "error 4\n"}, {"\n", "error 4\n"}, {"rich b\n", "error 4\n"}, {"rich b\r", "error 4\n"}, {"rich m", "error 2\n"}, {"rich q", "error 6\n"}, {"below f 0", "error 2\n"}, {"path h", "error 6\n"},
		{"cut h 1 2", "made h\n"}, {"path h", "path -\n"}, {"chop s 0 199 q", "error 5\n"}, {"proof d 4", "error 6\n"}, {"drop h", "dropped h\n"}, {"drop h", "error 6\n"},
	} {
		if said := s.Say(c.line); said != c.said {
			t.Errorf("%q: said %q, want %q", c.line, said, c.said)
		}
	}
	want(t, filled(t, s), "rich b", "rich 3")
	if said := s.Say("braid new a"); said != "error 5\n" {
		t.Errorf("a full shop said %q", said)
	}
}

// P10.6: Play says what a new shop says to all lines that are not empty.
func TestPlay(t *testing.T) {
	for _, c := range []struct{ text, said string }{
		{"", ""}, {"\n", ""}, {"\n\n\n", ""}, {"braid b abca", "made b\n"}, {"braid b abca\n", "made b\n"}, {"\nbraid b abca\n\n\nrich b\n", "made b\nrich 3\n"}, {" ", "error 4\n"}, {"\r\n", "error 4\n"}, {"braid b abca\r\nrich b", "error 2\nerror 6\n"},
		{"x", "error 4\n"}, {"x\ny\n", "error 4\nerror 4\n"}, {"rich b\nbraid b a\nrich b\nbraid b a\ndrop b\nrich b", "error 6\nmade b\nrich -1\nerror 2\ndropped b\nerror 6\n"}, {"\x00", "error 4\n"}, {"\n \n", "error 4\n"},
		{strings.Repeat("x", 5000), "error 4\n"}, {strings.Repeat("x", 5000) + "\nmix m 2 0,1\npermutes m", "error 4\nmade m\npermutes 1\n"}, {"match m 1,2;3,5\nbest m", "made m\nbest 1,0 5\n"}, {"rest e 5 -\n\nboxes e\nx", "made e\nboxes 0\nerror 4\n"},
	} {
		for range 2 {
			if said := shop.Play(c.text); said != c.said {
				t.Errorf("%.100q: said %q, want %q", c.text, said, c.said)
			}
		}
	}
}

// P10.6: Play against the clerk, with many acts and with more results than the log has.
func TestLongPlays(t *testing.T) {
	for seed := range uint64(8) {
		c, said, random := newClerk(), "", newSource(100+seed, 45)
		var text strings.Builder
		for range 400 {
			line := random.line(c)
			if random.IntN(10) == 0 {
				line = strings.ReplaceAll(random.spoilt(line), "\n", "")
			}
			text.WriteString(line + strings.Repeat("\n", 1+random.IntN(3)))
			if line != "" {
				said += c.say(line)
			}
		}
		if got := shop.Play(text.String()); got != said {
			t.Fatalf("%s is played as\n%s, want\n%s", text.String(), got, said)
		}
	}
	many := strings.Repeat("x\n", 200000)
	if said := shop.Play(many); said != strings.Repeat("error 4\n", 200000) {
		t.Errorf("many lines are played as %.100q", said)
	}
}
