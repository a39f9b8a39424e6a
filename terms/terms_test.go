package terms_test

import (
	"math/rand"
	"slices"
	"strings"
	"testing"

	"euphroe/api"
	"euphroe/terms"
)

// foreign is a term that nothing in the package gave.
type foreign struct{ terms.Term }

// none are what is no term.
func none() []terms.Term { return []terms.Term{nil, foreign{}, foreign{of("a")}} }

// of is the term of a text.
func of(s string) terms.Term {
	t, e := terms.Parse(s)
	if e != api.OK {
		panic(s)
	}
	return t
}

// must is a term that was made.
func must(t terms.Term, e api.Errno) terms.Term {
	if e != api.OK {
		panic(e)
	}
	return t
}

// deep is a text of a depth.
func deep(n int) string { return strings.Repeat("#", n-1) + "a" }

// wide is a text of a size (odd: pairs and atoms; even: a hash ahead) and a small depth.
func wide(n int) string {
	switch {
	case n == 1:
		return "a"
	case n%2 == 0:
		return "#" + wide(n-1)
	}
	left := (n - 1) / 2
	return "(" + wide(left) + " " + wide(n-1-left) + ")"
}

// P41.1: an atom has one to eight letters or digits, a letter first.
func TestAtom(t *testing.T) {
	for _, s := range []string{"a", "z", "a0", "z9", "abcdefgh", "a1234567", "ok", "x3", "h1"} {
		x, e := terms.Atom(s)
		if e != api.OK || terms.Text(x) != s || terms.Kind(x) != 1 || terms.Size(x) != 1 || terms.Depth(x) != 1 || len(terms.Parts(x)) != 0 {
			t.Errorf("Atom(%q): %v, %d", s, x, e)
		}
	}
	for _, s := range []string{"", "0", "9a", "A", "aB", "abcdefghi", "a b", " a", "a ", "é", "a\x00", "a_", "`", "{", "a/", "a:", "(a b)", "#a", strings.Repeat("a", 1000), "a\xff"} {
		if x, e := terms.Atom(s); x != nil || e != api.ErrForm {
			t.Errorf("Atom(%q): %v, %d", s, x, e)
		}
	}
}

// P41.1, P41.3: what is put together, and taken apart.
func TestPutTogether(t *testing.T) {
	a, b := of("a"), of("b")
	for _, c := range []struct {
		x           terms.Term
		text        string
		kind        int
		size, depth int
		parts       []string
	}{
		{must(terms.Pair(a, b)), "(a b)", 2, 3, 2, []string{"a", "b"}}, {must(terms.Hash(a)), "#a", 3, 2, 2, []string{"a"}}, {must(terms.Seal(a, b)), "[a b]", 4, 3, 2, []string{"a", "b"}}, {must(terms.Seal(b, a)), "[b a]", 4, 3, 2, []string{"b", "a"}},
		{must(terms.Pair(a, must(terms.Hash(b)))), "(a #b)", 2, 4, 3, []string{"a", "#b"}}, {must(terms.Hash(must(terms.Seal(must(terms.Pair(a, a)), b)))), "#[(a a) b]", 3, 6, 4, []string{"[(a a) b]"}},
		{must(terms.Pair(must(terms.Hash(must(terms.Hash(a)))), b)), "(##a b)", 2, 5, 4, []string{"##a", "b"}},
	} {
		var parts []string
		for _, p := range terms.Parts(c.x) {
			parts = append(parts, terms.Text(p))
		}
		if terms.Text(c.x) != c.text || terms.Kind(c.x) != c.kind || terms.Size(c.x) != c.size || terms.Depth(c.x) != c.depth || !slices.Equal(parts, c.parts) {
			t.Errorf("%s: %s, %d, %d, %d, %v", c.text, terms.Text(c.x), terms.Kind(c.x), terms.Size(c.x), terms.Depth(c.x), parts)
		}
	}
	if terms.KAtom != 1 || terms.KPair != 2 || terms.KHash != 3 || terms.KSeal != 4 {
		t.Error("other numbers")
	}
}

// P41.1: nil, and what is too great; nil first.
func TestRefuses(t *testing.T) {
	a := of("a")
	great := of(wide(200))
	for _, n := range none() {
		for i, made := range []func() (terms.Term, api.Errno){
			func() (terms.Term, api.Errno) { return terms.Pair(n, a) }, func() (terms.Term, api.Errno) { return terms.Pair(a, n) }, func() (terms.Term, api.Errno) { return terms.Pair(n, n) }, func() (terms.Term, api.Errno) { return terms.Pair(great, n) },
			func() (terms.Term, api.Errno) { return terms.Hash(n) }, func() (terms.Term, api.Errno) { return terms.Seal(n, great) }, func() (terms.Term, api.Errno) { return terms.Seal(a, n) }, func() (terms.Term, api.Errno) { return terms.Seal(n, n) },
		} {
			if x, e := made(); x != nil || e != api.ErrNil {
				t.Error(i, x, e)
			}
		}
	}
	for _, c := range []struct {
		a, b string
		fine bool
	}{{wide(99), wide(100), true}, {wide(100), wide(100), false}, {wide(199), "a", false}, {wide(198), "a", true}, {"a", wide(199), false}, {deep(39), "a", true}, {"a", deep(39), true}, {deep(40), "a", false}, {"a", deep(40), false}} {
		want := api.ErrBig
		if c.fine {
			want = api.OK
		}
		x, e1 := terms.Pair(of(c.a), of(c.b))
		y, e2 := terms.Seal(of(c.a), of(c.b))
		if e1 != want || e2 != want || (x == nil) == c.fine || (y == nil) == c.fine {
			t.Errorf("%.20s, %.20s: %d, %d", c.a, c.b, e1, e2)
		}
	}
	for s, want := range map[string]api.Errno{wide(199): api.OK, wide(200): api.ErrBig, deep(39): api.OK, deep(40): api.ErrBig} {
		if x, e := terms.Hash(of(s)); e != want || (x == nil) != (e != api.OK) {
			t.Errorf("Hash(%.20s): %d", s, e)
		}
	}
}

// P41.1, P41.3: of what is no term nothing is told.
func TestNone(t *testing.T) {
	for _, n := range none() {
		if terms.Text(n) != "" || terms.Size(n) != 0 || terms.Depth(n) != 0 || terms.Kind(n) != 0 || len(terms.Parts(n)) != 0 || len(terms.Within(n)) != 0 || terms.Same(n, of("a")) || terms.Same(of("a"), n) {
			t.Errorf("%v", n)
		}
	}
	if !terms.Same(nil, nil) {
		t.Error("both nil")
	}
}

// P41.2, P41.4: texts are parsed, and are the terms' own.
func TestParse(t *testing.T) {
	for _, s := range []string{"a", "abcdefgh", "#a", "##a1", "(a b)", "[a b]", "(a #b)", "((a b) (c d))", "[#[a b] ([c d] #e)]", "#(a b)", deep(40), wide(200), wide(199), "(abcdefgh a1234567)", "(" + deep(39) + " " + deep(39) + ")"} {
		x, e := terms.Parse(s)
		if e != api.OK || terms.Text(x) != s {
			t.Errorf("Parse(%.40s): %v, %d", s, terms.Text(x), e)
		}
	}
	if x := of(wide(200)); terms.Size(x) != 200 || terms.Depth(of(deep(40))) != 40 {
		t.Error(terms.Size(x))
	}
}

// P41.2: each error, and which one is the first from the left.
func TestParseRefuses(t *testing.T) {
	for _, c := range []struct {
		s    string
		want api.Errno
	}{
		{strings.Repeat("a", 2001), api.ErrBig}, {strings.Repeat(" ", 2001), api.ErrBig}, {strings.Repeat("#", 2001), api.ErrBig}, {strings.Repeat("a", 2000), api.ErrForm}, {strings.Repeat("#", 2000), api.ErrEnd}, {strings.Repeat("(", 2000), api.ErrEnd},
		{"", api.ErrEnd}, {"#", api.ErrEnd}, {"(", api.ErrEnd}, {"[", api.ErrEnd}, {"(a", api.ErrEnd}, {"(a ", api.ErrEnd}, {"(a b", api.ErrEnd}, {"[a b", api.ErrEnd}, {"(a #", api.ErrEnd}, {"((a b) ", api.ErrEnd}, {"##(a [b", api.ErrEnd},
		{" ", api.ErrForm}, {" a", api.ErrForm}, {"a ", api.ErrForm}, {"a b", api.ErrForm}, {"A", api.ErrForm}, {"1", api.ErrForm}, {"1a", api.ErrForm}, {")", api.ErrForm}, {"]", api.ErrForm}, {"()", api.ErrForm}, {"( a b)", api.ErrForm}, {"(a  b)", api.ErrForm}, {"(a b )", api.ErrForm}, {"(a b]", api.ErrForm}, {"[a b)", api.ErrForm},
		{"(a,b)", api.ErrForm}, {"(a)", api.ErrForm}, {"(a\tb)", api.ErrForm}, {"# a", api.ErrForm}, {"#)", api.ErrForm}, {"(a b)c", api.ErrForm}, {"(a b)(", api.ErrForm}, {"#a#b", api.ErrForm}, {"abcdefghi", api.ErrForm}, {"(abcdefghi", api.ErrForm}, {"(a abcdefgh1", api.ErrForm}, {"a\x00", api.ErrForm}, {"é", api.ErrForm}, {"a-b", api.ErrForm}, {"(a b)\n", api.ErrForm}, {"aB", api.ErrForm}, {"\xff", api.ErrForm}, {"(a 1)", api.ErrForm},
		{deep(41), api.ErrBig}, {"#" + wide(200), api.ErrBig}, {deep(100), api.ErrBig}, {"(" + deep(40) + " a)", api.ErrBig}, {"[a " + deep(40) + "]", api.ErrBig}, {"(" + wide(100) + " " + wide(100) + ")", api.ErrBig},
		// What ends is looked at where it ends.
		{deep(41) + ")", api.ErrBig}, {deep(41) + " ", api.ErrBig}, {"(" + deep(41), api.ErrBig}, {"(" + deep(41) + "]", api.ErrBig}, {"[(" + deep(41) + "!", api.ErrBig}, {"(" + deep(40) + " a", api.ErrEnd}, {"(" + deep(40) + " a]", api.ErrForm}, {"(" + deep(40), api.ErrEnd}, {"(" + deep(40) + " A", api.ErrForm}, {"(" + deep(40) + " " + deep(41), api.ErrBig}, {"(" + deep(40) + " a)!", api.ErrBig},
		{"(" + wide(100) + " " + wide(100), api.ErrEnd}, {"(" + wide(100) + " " + wide(100) + "]", api.ErrForm}, {"(" + wide(100) + " " + wide(100) + ")x", api.ErrBig}, {"#" + wide(200) + "x", api.ErrBig}, {"((" + wide(100) + " " + wide(100) + ") ", api.ErrBig},
		// The ninth letter comes ahead of that.
		{strings.Repeat("#", 60) + "abcdefghi", api.ErrForm}, {strings.Repeat("#", 60) + "abcdefgh", api.ErrBig}, {strings.Repeat("#", 60) + "A", api.ErrForm}, {strings.Repeat("#", 60), api.ErrEnd}, {strings.Repeat("#", 40) + "abcdefgh9", api.ErrForm}, {"(" + wide(199) + " abcdefgh0)", api.ErrForm},
	} {
		if x, e := terms.Parse(c.s); x != nil || e != c.want {
			t.Errorf("Parse(%.60s of %d): %v, %d, not %d", c.s, len(c.s), x, e, c.want)
		}
	}
}

// P41.3: the same have one text.
func TestSame(t *testing.T) {
	l := []string{"a", "b", "#a", "##a", "(a b)", "(b a)", "[a b]", "[b a]", "((a b) c)", "(a (b c))", "a1"}
	for i, a := range l {
		for j, b := range l {
			if terms.Same(of(a), of(b)) != (i == j) {
				t.Error(a, b)
			}
		}
	}
	if !terms.Same(must(terms.Pair(of("a"), must(terms.Hash(of("b"))))), of("(a #b)")) {
		t.Error("made in another way")
	}
}

// P41.3: the texts of all within, each once, rising.
func TestWithin(t *testing.T) {
	for s, want := range map[string][]string{
		"a": {"a"}, "#a": {"#a", "a"}, "(a b)": {"(a b)", "a", "b"}, "(a a)": {"(a a)", "a"}, "[k (a #k)]": {"#k", "(a #k)", "[k (a #k)]", "a", "k"}, "((b a) (b a))": {"((b a) (b a))", "(b a)", "a", "b"}, "(#a ##a)": {"##a", "#a", "(#a ##a)", "a"},
	} {
		if got := terms.Within(of(s)); !slices.Equal(got, want) {
			t.Errorf("Within(%s): %v", s, got)
		}
	}
}

// any is a term, by chance.
func any(r *rand.Rand, depth int) terms.Term {
	if depth == 0 || r.Intn(3) == 0 {
		return must(terms.Atom([]string{"a", "b", "k1", "abcdefgh"}[r.Intn(4)]))
	}
	switch r.Intn(3) {
	case 0:
		return must(terms.Hash(any(r, depth-1)))
	case 1:
		return must(terms.Pair(any(r, depth-1), any(r, depth-1)))
	}
	return must(terms.Seal(any(r, depth-1), any(r, depth-1)))
}

// P41.4: a term's text is parsed; what is parsed has that text.
func TestRound(t *testing.T) {
	r := rand.New(rand.NewSource(41))
	for range 3000 {
		x := any(r, 5)
		s := terms.Text(x)
		y, e := terms.Parse(s)
		if e != api.OK || !terms.Same(x, y) || terms.Size(x) != terms.Size(y) || terms.Depth(x) != terms.Depth(y) {
			t.Fatal(s, e)
		}
		b := []byte(s)
		b[r.Intn(len(b))] = "ab1 #()[]A"[r.Intn(10)]
		if z, e := terms.Parse(string(b)); e == api.OK && terms.Text(z) != string(b) {
			t.Fatalf("%s: %s", b, terms.Text(z))
		}
		if z, e := terms.Parse(s[:r.Intn(len(s))]); (e == api.OK) != (z != nil) {
			t.Fatal(s)
		}
	}
}

// R7 of the language: answers are memory of their own.
func TestNothingIsShared(t *testing.T) {
	x := of("(a b)")
	terms.Parts(x)[0] = of("c")
	terms.Within(x)[0] = "z"
	if terms.Text(x) != "(a b)" || !slices.Equal(terms.Within(x), []string{"(a b)", "a", "b"}) {
		t.Error(terms.Text(x))
	}
}
