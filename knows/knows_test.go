package knows_test

import (
	"math/rand"
	"slices"
	"strconv"
	"strings"
	"testing"

	"euphroe/api"
	"euphroe/knows"
	"euphroe/terms"
)

// of is the term of a text.
func of(s string) terms.Term {
	t, e := terms.Parse(s)
	if e != api.OK {
		panic(s)
	}
	return t
}

// heard is one that heard these.
func heard(t *testing.T, l ...string) *knows.Store {
	k := knows.New()
	for _, s := range l {
		if e := k.Hear(of(s)); e != api.OK {
			t.Fatal(s, e)
		}
	}
	return k
}

// P42.1: what is held of what was heard.
func TestHolds(t *testing.T) {
	for _, c := range []struct{ heard, holds []string }{
		{nil, nil}, {[]string{"a"}, []string{"a"}}, {[]string{"b", "a", "b"}, []string{"a", "b"}}, {[]string{"(a #b)"}, []string{"#b", "a"}}, {[]string{"((c b) (a (b d)))"}, []string{"a", "b", "c", "d"}}, {[]string{"#(a b)", "[k (a b)]"}, []string{"#(a b)", "[k (a b)]"}},
		{[]string{"([k a] #(b c))", "k"}, []string{"#(b c)", "[k a]", "k"}}, {[]string{"(a a)"}, []string{"a"}}, {[]string{"#a", "a"}, []string{"#a", "a"}},
	} {
		if got := heard(t, c.heard...).Holds(); !slices.Equal(got, c.holds) {
			t.Errorf("%v: %v, not %v", c.heard, got, c.holds)
		}
	}
}

// P42.2: what follows, and by how many steps.
func TestKnows(t *testing.T) {
	for _, c := range []struct {
		heard []string
		s     string
		steps int
	}{
		{[]string{"(a #b)"}, "a", 0}, {[]string{"(a #b)"}, "#b", 0}, {[]string{"(a #b)"}, "#a", 1}, {[]string{"(a #b)"}, "b", -1}, {[]string{"(a #b)"}, "(a #b)", 1}, {[]string{"(a #b)"}, "##b", 1}, {[]string{"(a #b)"}, "(#a (a #b))", 3}, {[]string{"(a #b)"}, "[a #b]", 1}, {[]string{"(a #b)"}, "[b a]", -1}, {[]string{"(a #b)"}, "(a b)", -1}, {[]string{"(a #b)"}, "##a", 2},
		{[]string{"[k a]", "k"}, "a", -1}, {[]string{"[k a]"}, "[k a]", 0}, {[]string{"[k a]"}, "k", -1}, {[]string{"[k a]"}, "#[k a]", 1}, {[]string{"[k a]"}, "[[k a] [k a]]", 1}, {[]string{"#(a b)"}, "#(a b)", 0}, {[]string{"#(a b)"}, "(a b)", -1}, {[]string{"#(a b)", "a", "b"}, "#(a b)", 0}, {[]string{"a", "b"}, "#(a b)", 2},
		{[]string{"a", "b"}, "[(a b) #(b a)]", 4}, {nil, "a", -1}, {nil, "#a", -1}, {[]string{"#a", "a"}, "(#a a)", 1}, {[]string{"a"}, "(a a)", 1}, {[]string{"a"}, "((a a) (a a))", 3}, {[]string{"a"}, "[a b]", -1}, {[]string{"a"}, "(b a)", -1}, {[]string{"aa"}, "a", -1},
	} {
		k := heard(t, c.heard...)
		x := of(c.s)
		if got := k.Steps(x); got != c.steps || k.Knows(x) != (c.steps >= 0) {
			t.Errorf("%v: %s: %d, %v, not %d", c.heard, c.s, got, k.Knows(x), c.steps)
		}
	}
}

// foreign is a term that nothing gave.
type foreign struct{ terms.Term }

// P42.1, P42.2: nil, and stores that nobody made.
func TestNil(t *testing.T) {
	k := heard(t, "a")
	for _, x := range []terms.Term{nil, foreign{}} {
		if k.Hear(x) != api.ErrNil || k.Knows(x) || k.Steps(x) != -1 || len(k.Holds()) != 1 {
			t.Error("of nil")
		}
	}
	for _, k := range []*knows.Store{nil, {}} {
		for _, x := range []terms.Term{nil, of("a"), of("(a b)")} {
			if k.Hear(x) != api.ErrNil || k.Knows(x) || k.Steps(x) != -1 || len(k.Holds()) != 0 || k.Copy() != nil {
				t.Error("of nobody's")
			}
		}
	}
}

// P42.1: no more than 500 are held; of what is too many nothing is heard.
func TestMany(t *testing.T) {
	k := knows.New()
	for i := range 498 {
		if e := k.Hear(of("a" + strconv.Itoa(i))); e != api.OK {
			t.Fatal(i, e)
		}
	}
	if e := k.Hear(of("(x (y z))")); e != api.ErrMany || len(k.Holds()) != 498 || k.Knows(of("x")) {
		t.Error(e, len(k.Holds()))
	}
	if e := k.Hear(of("(x (x (y (a1 (a2 #x)))))")); e != api.ErrMany || len(k.Holds()) != 498 {
		t.Error(e, len(k.Holds()))
	}
	if e := k.Hear(of("(x (x (y (a1 a2))))")); e != api.OK || len(k.Holds()) != 500 {
		t.Error(e, len(k.Holds()))
	}
	if e := k.Hear(of("z")); e != api.ErrMany || len(k.Holds()) != 500 || k.Knows(of("z")) {
		t.Error(e)
	}
	if e := k.Hear(of("(x (a3 y))")); e != api.OK || len(k.Holds()) != 500 {
		t.Error("what is held already", e)
	}
}

// P42.2: a copy holds the same, and goes its own way.
func TestCopy(t *testing.T) {
	k := heard(t, "a", "#b")
	c := k.Copy()
	c.Hear(of("c"))
	k.Hear(of("d"))
	if !slices.Equal(k.Holds(), []string{"#b", "a", "d"}) || !slices.Equal(c.Holds(), []string{"#b", "a", "c"}) || k.Knows(of("c")) || c.Knows(of("d")) || !c.Knows(of("(a #b)")) {
		t.Error(k.Holds(), c.Holds())
	}
	if c := knows.New().Copy(); c == nil || len(c.Holds()) != 0 || c.Hear(of("a")) != api.OK {
		t.Error("of nothing")
	}
	k.Holds()[0] = "z"
	if k.Holds()[0] != "#b" {
		t.Error("shared")
	}
}

// some is a term, by chance.
func some(r *rand.Rand, depth int) string {
	if depth == 0 || r.Intn(3) == 0 {
		return string(rune('a' + r.Intn(6)))
	}
	a, b := some(r, depth-1), some(r, depth-1)
	return []string{"#" + a, "(" + a + " " + b + ")", "[" + a + " " + b + "]"}[r.Intn(3)]
}

// follows is whether a text follows of what is held, by looking at it from above alone.
func follows(held []string, s string) int {
	if slices.Contains(held, s) {
		return 0
	}
	parts := terms.Parts(of(s))
	if len(parts) == 0 {
		return -1
	}
	n := 1
	for _, p := range parts {
		k := follows(held, terms.Text(p))
		if k < 0 {
			return -1
		}
		n += k
	}
	return n
}

// P42.2, P42.3: who hears more knows more; what it knows it may hear without knowing more.
func TestHearsMore(t *testing.T) {
	r := rand.New(rand.NewSource(42))
	for range 300 {
		k := knows.New()
		var asked []string
		for range 30 {
			asked = append(asked, some(r, 3))
		}
		for range 8 {
			before := k.Copy()
			k.Hear(of(some(r, 3)))
			for _, s := range asked {
				x := of(s)
				if before.Knows(x) && !k.Knows(x) {
					t.Fatal("forgot", s)
				}
				if k.Steps(x) != follows(k.Holds(), s) {
					t.Fatal(s, k.Steps(x), k.Holds())
				}
				if !k.Knows(x) {
					continue
				}
				c := k.Copy()
				if e := c.Hear(x); e != api.OK {
					t.Fatal(e)
				}
				for _, other := range asked {
					if c.Knows(of(other)) != k.Knows(of(other)) {
						t.Fatal("learned", other, "of", s)
					}
				}
			}
		}
	}
	if k := heard(t, "#"+strings.Repeat("#", 30)+"a"); k.Knows(of("a")) || k.Knows(of("#a")) || !k.Knows(of(strings.Repeat("#", 35)+"a")) {
		t.Error("of a hash")
	}
}
