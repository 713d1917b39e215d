package shop_test

import (
	"strings"
	"testing"

	"galloon/api"
	"galloon/shop"
)

// P10.2: an act of each form has its result.
func TestRightActs(t *testing.T) {
	tried := map[string]bool{}
	for _, c := range rightActs {
		s := stocked(t, stock)
		want(t, s, c[0], c[1])
		tried[strings.Fields(c[0])[0]] = true
	}
	for word := range allForms() {
		if !tried[word] {
			t.Errorf("%s was not tried", word)
		}
	}
}

// P10.2: a line is no act if it has too many parts, or too few, or anything but one blank between them.
func TestWrongParts(t *testing.T) {
	s := stocked(t, stock)
	for _, c := range rightActs {
		line := c[0]
		words := strings.Split(line, " ")
		wrong := []string{line + " ", " " + line, line + " x", line + " 1", line + " -", line + "\n", "\n" + line, line + "\r", line + "\t", line + "\x00", line + " \n", words[0], words[0] + " ", strings.ToUpper(line),
			strings.ToUpper(words[0][:1]) + line[1:], words[0] + line, line[1:], strings.Join(words[1:], " "), strings.Join(words[:len(words)-1], " "), strings.Join(words[:len(words)-1], " ") + " ", "- " + line, line + line, "\ufeff" + line, words[0] + "x" + line[len(words[0]):]}
		for i := range line {
			if line[i] == ' ' {
				for _, between := range []string{"", "  ", "\t", "\n", " \n", ",", ";", "\u00a0", "   ", "\x00"} {
					wrong = append(wrong, line[:i]+between+line[i+1:])
				}
			}
		}
		for _, line := range wrong {
			if isText(line) {
				continue
			}
			wantError(t, s, line, api.ErrSyntax)
		}
	}
}

// isText tells whether a line has the form of an act, for its TEXT can be all that has no blank and no line feed.
func isText(line string) bool {
	words := strings.Split(line, " ")
	return (words[0] == "braid" || words[0] == "count" || words[0] == "snake") && len(words) == 3 && words[1] == "new" && words[2] != "" && !strings.Contains(line, "\n")
}

// wrongTexts are what is not written as it must be.
func wrongTexts(place string) []string {
	noNumbers := []string{"", "+1", "01", "-01", "00", "-0", "+0", "--1", "1-", "1.0", "1e3", "0x1", "1_000", "x", "one", "½", "１", "1\t", "\t1", "1\n", "9223372036854775808", "-9223372036854775809", "18446744073709551616", "18446744073709551617", strings.Repeat("1", 40), "1/2", "\x00", "\xff"}
	var wrong []string
	switch place {
	case "NAME", "OTHER", "NEW":
		return []string{"", "B", "b1", "1", "-", "b-", "b,m", "bB", "bé", "b\t", "b\n", "b\x00", "\xff", "`", "{", "a{", strings.Repeat("b", 17), strings.Repeat("b", 100)}
	case "TEXT":
		return []string{"", "a\n", "\n", "a\nb"}
	case "LIST":
		for _, n := range noNumbers {
			wrong = append(wrong, n, n+",1", "1,"+n, "1,"+n+",1")
		}
		return append(wrong, ",", "-,1", "1,-", "-,-", "--", "1;2", "1,2;", ";", "-;-", "-;", "[1]", "1,,1", "-1,", "- ")
	case "LISTS":
		for _, n := range noNumbers {
			wrong = append(wrong, n, n+",1", "1,"+n, n+";1", "1;"+n, "1;1,"+n+";1")
		}
		return append(wrong, ";", ";;", "-;", ";-", "-;-;", "1,2;,", "1,-;2", "-,1;2", "1;-,-", "--;1", "1,2;3,", "1:2", "1|2")
	}
	return append(noNumbers, "-", "1,2", "1;2", "1,", "a")
}

// P10.2: a line is no act if an argument is not written as it must be.
func TestWrongArguments(t *testing.T) {
	s := stocked(t, stock)
	for _, c := range rightActs {
		words := strings.Split(c[0], " ")
		for i, place := range allForms()[words[0]].places {
			for _, text := range wrongTexts(place) {
				line := strings.Join(words[:i+1], " ") + " " + text
				wantError(t, s, strings.Join(append([]string{line}, words[i+2:]...), " "), api.ErrSyntax)
			}
		}
	}
	for _, line := range []string{"", " ", "-", "words", "words b", "made b", "error 4", "NAME", "names", "text", "log", "kind b", "b", "braids", "b rich", "say rich b", "new", "\x00", "\xff", "\n", "# rich b", "check b", "longest b", "total m"} {
		wantError(t, s, line, api.ErrSyntax)
	}
}

// P10.2: numbers can be all ints, and names have 1 to 16 letters.
func TestExtremes(t *testing.T) {
	s := stocked(t, stock)
	long := strings.Repeat("z", 16)
	for _, c := range []struct {
		line  string
		errno api.Errno
	}{
		{"below f 9223372036854775807", 2}, {"below f -9223372036854775808", 2}, {"below f -1", 2}, {"ranked m -9223372036854775808", 2}, {"proof d 9223372036854775807", 2}, {"descent w -1", 2}, {"chance l 9223372036854775807", 2},
		{"at k -9223372036854775808 9223372036854775807", 2}, {"at k 1 -9223372036854775808", 2}, {"at k 9223372036854775807 1", 2}, {"step w 9223372036854775807 new", 2}, {"chop s -9223372036854775808 1 new", 2}, {"chop s 0 9223372036854775807 new", 2}, {"insert k -9223372036854775808 new", 2},
		{"insert k 9223372036854775807 new", 2}, {"cut new 9223372036854775807 -9223372036854775808", 2}, {"mix new 9223372036854775807 -9223372036854775808", 2}, {"rest new 9223372036854775807 9223372036854775807", 2}, {"seam new -9223372036854775808 9223372036854775807 -9223372036854775808,1", 2},
		{"rich " + long, 6}, {"rich " + long + "z", 4}, {"order w " + long, 6}, {"order w " + long + "z", 4}, {"tower b " + long + "z", 4}, {"drop " + long, 6}, {"rich z", 6}, {"braid " + long + "z a", 4},
		{"match new -;-", 2}, {"match new 1;-", 2}, {"match new -", 2}, {"rest new 0 -", 2}, {"lot new - -", 2}, {"seam new 0 - -;-", 2}, {"deal new -;1", 2}, {"mix new 1 -", 2}, {"braid new -", 2}, {"count new -", 2}, {"snake new -", 2},
	} {
		wantError(t, s, c.line, c.errno)
	}
	want(t, s, "tower b "+long, "made "+long)
	want(t, s, "rich "+long, "rich -1")
	want(t, s, "drop "+long, "dropped "+long)
	want(t, s, "braid "+long+" abca", "made "+long)
	want(t, s, "rest z 100 -", "made z")
	want(t, s, "full z", "full 0")
}

// P10.2: a line has at most 4096 bytes.
func TestLengths(t *testing.T) {
	s := stocked(t, stock)
	for _, c := range []struct {
		line, more string
		errno      api.Errno
	}{
		{"braid new ", "a", 2}, {"count new ", "0", 2}, {"snake new ", "(", 2}, {"rest new 100 1", ",1", 2}, {"match new 1", ";1", 2}, {"lot new 1 -", ";-", 2}, {"deal new -", ";1", 2}, {"mix new 2 0", ",0", 2}, {"seam new 0 0,1 1", ",1", 2},
		{"words", "s", 4}, {"rich b", " ", 4}, {"rich b", "b", 4}, {"below f ", "1", 4}, {"", " ", 4}, {"", "\xff", 4},
	} {
		line := c.line + strings.Repeat(c.more, (4096-len(c.line))/len(c.more))
		switch {
		case len(line) == 4095 && c.errno == 2:
			line = strings.Replace(line, "new", "newe", 1)
		case len(line) == 4095:
			line += c.more
		}
		if len(line) != 4096 {
			t.Fatalf("%s has %d bytes", c.line, len(line))
		}
		wantError(t, s, line, c.errno)
		wantError(t, s, line+c.more, api.ErrSyntax)
		wantError(t, s, line+strings.Repeat(c.more, 1<<20), api.ErrSyntax)
		if c.errno == 2 {
			wantError(t, s, strings.Replace(line, "new", "newer", 1), api.ErrSyntax)
			wantError(t, s, line+"\n", api.ErrSyntax)
		}
	}
}

// Rule 2: of several errors the one that is named first is returned.
func TestFirstErrors(t *testing.T) {
	few, full := stocked(t, stock), filled(t, stocked(t, stock))
	for _, c := range []struct {
		line      string
		few, full api.Errno
	}{
		// of acts that make: what is no act, then a NAME that is taken and what is none, then a full shop
		{"braid b +\n", 4, 4}, {"cut b 01 2", 4, 4}, {"cut b 2 4", 2, 2}, {"braid b a", 2, 2}, {"braid new e", 2, 2}, {"match new 1,2", 2, 2}, {"cut new 2 4", 2, 2}, {"deal new -;1", 2, 2}, {"count new 1", 2, 2}, {"snake new 1", 2, 2}, {"mix new 1 -", 2, 2}, {"lot new 1 1", 2, 2},
		{"seam new 0 0,1 1", 2, 2}, {"rest new 0 -", 2, 2}, {"rest v 10 -", 2, 2}, {"cut g 2 4", 2, 2},
		// of acts that ask: what is no act, then names that are missing, then kinds, then those of the functions
		{"below q 01", 4, 4}, {"below m 01", 4, 4}, {"below q 0", 6, 6}, {"below m 0", 2, 2}, {"below f 0", 2, 2}, {"proof f 2000", 2, 2}, {"proof d 4", 6, 6}, {"proof d 1001", 2, 2}, {"order q b", 6, 6}, {"order b q", 6, 6}, {"order q q", 6, 6}, {"order w q", 6, 6}, {"order q w", 6, 6},
		{"order b w", 2, 2}, {"order w b", 2, 2}, {"order b b", 2, 2}, {"order b m", 2, 2}, {"beside q 0", 6, 6}, {"beside f 0", 2, 2}, {"beside f 301", 2, 2},
		// of acts that turn: what is no act, then names that are missing, then kinds, then NEW, then a full shop, then those of the functions
		{"between q f G", 4, 4}, {"between q f g", 6, 6}, {"between f q g", 6, 6}, {"between b q new", 6, 6}, {"between q b new", 6, 6}, {"between f b new", 2, 2}, {"between b f new", 2, 2}, {"between b b new", 2, 2}, {"between f b g", 2, 2}, {"between f g g", 2, 2}, {"between f g f", 2, 2}, {"between g f f", 2, 2},
		{"between g f new", 2, 5}, {"between f f new", 2, 5}, {"sum w b new", 2, 2}, {"sum b w new", 2, 2}, {"sum q w w", 6, 6}, {"sum w q w", 6, 6}, {"sum f g new", 2, 2}, {"step o 2000 o", 2, 2}, {"step o 2000 new", 2, 5}, {"step q 2000 o", 6, 6}, {"step b 0 new", 2, 2}, {"chop s 0 1000 s", 2, 2},
		{"chop s 0 198 b", 2, 2}, {"chop s 0 199 new", 5, 5}, {"chop s 1 0 new", 2, 5}, {"chop b 1 0 new", 2, 2}, {"chop q 1 0 b", 6, 6}, {"insert k 0 new", 2, 5}, {"insert k 0 b", 2, 2}, {"insert q 0 b", 6, 6}, {"insert b 0 new", 2, 2}, {"tower q b", 6, 6}, {"tower m new", 2, 2}, {"closure m new", 2, 2},
		{"turned b new", 2, 2}, {"turned d d", 2, 2}, {"slope b new", 2, 2}, {"slope k k", 2, 2}, {"slope q k", 6, 6}, {"drop q", 6, 6}, {"drop Q", 4, 4}, {"blend o q q", 6, 6}, {"product q o o", 6, 6}, {"product o f new", 2, 2}, {"blend f o new", 2, 2},
	} {
		wantError(t, few, c.line, c.few)
		wantError(t, full, c.line, c.full)
	}
}

// P10.4 and P10.5: each act needs its own kind of ware, and a ware.
func TestWrongKinds(t *testing.T) {
	s := stocked(t, stock)
	for _, c := range rightActs {
		words := strings.Split(c[0], " ")
		f := allForms()[words[0]]
		for i, place := range f.places {
			if f.kind == "" || place != "NAME" && place != "OTHER" {
				continue
			}
			for _, name := range append(s.Names(), "q", "new", "braid") {
				other := append([]string{}, words...)
				other[i+1] = name
				switch s.Kind(name) {
				case f.kind:
				case "":
					wantError(t, s, strings.Join(other, " "), api.ErrNone)
				default:
					wantError(t, s, strings.Join(other, " "), api.ErrArg)
				}
			}
		}
	}
}

// P1: a shop accepts all lines.
func TestAllLines(t *testing.T) {
	s, c := stocked(t, stock), newClerk()
	for line := range strings.Lines(stock) {
		c.do(strings.TrimSuffix(line, "\n"))
	}
	random := newSource(5, 3)
	for range 20000 {
		line := []byte(rightActs[random.IntN(len(rightActs))][0])
		for range random.IntN(4) {
			line[random.IntN(len(line))] = byte(random.IntN(256))
		}
		if got, expected := s.Say(string(line)), c.say(string(line)); got != expected {
			t.Fatalf("%q: said %q, want %q", line, got, expected)
		}
	}
	if got, expected := state(s), c.state(); got != expected {
		t.Errorf("%s, want\n%s", got, expected)
	}
	for n := range 70000 {
		line := strings.Repeat(string([]byte{byte(n), byte(n >> 8)}), n%3)
		if _, errno := shop.New().Do(line); errno != api.ErrSyntax {
			t.Fatalf("%q: %d", line, errno)
		}
	}
}
