package terms

import "euphroe/api"

// Parse is the term of a text.
func Parse(s string) (Term, api.Errno) {
	if len(s) > mostText {
		return nil, api.ErrBig
	}
	p := parser{text: s}
	t, e := p.term()
	if e != api.OK {
		return nil, e
	}
	if p.at < len(s) {
		return nil, api.ErrForm
	}
	return t, api.OK
}

// isLetter tells whether an atom may begin by it.
func isLetter(b byte) bool { return b >= 'a' && b <= 'z' }

// letters is where the letters and digits from a place on end.
func letters(s string, from int) int {
	for from < len(s) && (isLetter(s[from]) || s[from] >= '0' && s[from] <= '9') {
		from++
	}
	return from
}

// parser reads a text from the left; what it looks at first is what is told.
type parser struct {
	text string
	at   int
}

// next goes on by one byte, that must be there.
func (p *parser) next(want byte) api.Errno {
	if p.at == len(p.text) {
		return api.ErrEnd
	}
	if p.text[p.at] != want {
		return api.ErrForm
	}
	p.at++
	return api.OK
}

// term is the next term.
func (p *parser) term() (Term, api.Errno) {
	if p.at == len(p.text) {
		return nil, api.ErrEnd
	}
	switch p.text[p.at] {
	case '#':
		p.at++
		of, e := p.term()
		if e != api.OK {
			return nil, e
		}
		return fits(hash{of: of})
	case '(':
		first, second, e := p.both(')')
		if e != api.OK {
			return nil, e
		}
		return fits(pair{first: first, second: second})
	case '[':
		key, of, e := p.both(']')
		if e != api.OK {
			return nil, e
		}
		return fits(seal{key: key, of: of})
	}
	return p.atom()
}

// both are the two terms between an opening sign and a closing one.
func (p *parser) both(closing byte) (Term, Term, api.Errno) {
	p.at++
	a, e := p.term()
	if e != api.OK {
		return nil, nil, e
	}
	if e := p.next(' '); e != api.OK {
		return nil, nil, e
	}
	b, e := p.term()
	if e != api.OK {
		return nil, nil, e
	}
	return a, b, p.next(closing)
}

// atom is the next atom: its ninth letter may not stand there.
func (p *parser) atom() (Term, api.Errno) {
	from := p.at
	p.at = letters(p.text, from)
	return Atom(p.text[from:p.at])
}
