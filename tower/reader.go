package tower

import (
	"strings"

	"galloon/api"
)

// reader reads a text from left to right, and panics with ErrSyntax where it is wrong.
type reader struct {
	rest string
	room int // how many nodes may still come
}

// readOrdinal returns the ordinal that is written in the text.
func readOrdinal(text string) ordinal {
	r := &reader{text, api.MaxSize}
	a := r.ordinal()
	r.end()
	return a
}

// readHydra returns the hydra that is written in the text.
func readHydra(text string) hydra {
	r := &reader{text, api.MaxHydra}
	h := r.hydra()
	r.end()
	return h
}

func (r *reader) ordinal() ordinal {
	if r.skips("0") {
		return nil
	}
	a := ordinal{r.part()}
	for r.skips("+") {
		p := r.part()
		demand(compare(a[len(a)-1].exponent, p.exponent) > 0, api.ErrSyntax)
		a = append(a, p)
	}
	return a
}

func (r *reader) part() part {
	r.count()
	r.expect("w^(")
	exponent := r.ordinal()
	r.expect(")*")
	return part{exponent, r.times()}
}

// times reads a number from 1 to MaxTimes without leading zeros.
func (r *reader) times() int {
	demand(!strings.HasPrefix(r.rest, "0"), api.ErrSyntax)
	times := 0
	for r.rest != "" && r.rest[0] >= '0' && r.rest[0] <= '9' {
		times = 10*times + int(r.rest[0]-'0')
		demand(times <= api.MaxTimes, api.ErrSyntax)
		r.rest = r.rest[1:]
	}
	demand(times > 0, api.ErrSyntax)
	return times
}

func (r *reader) hydra() hydra {
	r.count()
	r.expect("(")
	var h hydra
	for strings.HasPrefix(r.rest, "(") {
		h = append(h, r.hydra())
	}
	r.expect(")")
	return h
}

// count counts a node that begins. As too many are wrong at once, no text is nested too deeply to be read.
func (r *reader) count() {
	r.room--
	demand(r.room >= 0, api.ErrSyntax)
}

// skips reads the token if it comes next, and reports whether it does.
func (r *reader) skips(token string) bool {
	rest, found := strings.CutPrefix(r.rest, token)
	r.rest = rest
	return found
}

func (r *reader) expect(token string) {
	demand(r.skips(token), api.ErrSyntax)
}

func (r *reader) end() {
	demand(r.rest == "", api.ErrSyntax)
}
