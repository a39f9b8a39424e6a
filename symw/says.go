package symw

import (
	"strconv"

	"euphroe/terms"
)

// What is too great to be a term is nil here, and so is all that has it within.

// atom is an atom that may be.
func atom(name string) terms.Term {
	t, _ := terms.Atom(name)
	return t
}

// numbered is the atom of a letter and a number.
func numbered(letter string, n int) terms.Term { return atom(letter + strconv.Itoa(n)) }

// okay is what an answer has beside the response.
func okay() terms.Term { return atom("ok") }

// password is a user's.
func password(u int) terms.Term { return numbered("p", u) }

// certificate is the atom of a certificate: nil, if it is none.
func certificate(h string) terms.Term {
	t := atom(h)
	if t == nil || h[0] != 'h' {
		return nil
	}
	return t
}

// joined is the pair of the first part and of all others.
func joined(parts ...terms.Term) terms.Term {
	if len(parts) == 1 {
		return parts[0]
	}
	t, _ := terms.Pair(parts[0], joined(parts[1:]...))
	return t
}

// sealed is the seal of parts by a key.
func sealed(key terms.Term, parts ...terms.Term) terms.Term {
	t, _ := terms.Seal(key, joined(parts...))
	return t
}

// hashed is the hash of parts.
func hashed(parts ...terms.Term) terms.Term {
	t, _ := terms.Hash(joined(parts...))
	return t
}

// accepts is the answer to a response.
func accepts(u int, response terms.Term) terms.Term {
	return sealed(password(u), response, okay())
}

// bound is what binds a user's response to a nonce and a certificate.
func bound(x end) terms.Term {
	return sealed(hashed(hashed(password(x.user), x.response)), x.nonce, x.hash)
}

// isJust tells whether a term is just that one: none is one that is too great.
func isJust(t, must terms.Term) bool { return must != nil && terms.Same(t, must) }
