package symw_test

import (
	"math"
	"math/rand"
	"slices"
	"strconv"
	"strings"
	"testing"

	"euphroe/symw"
)

// Kinds of events.
const (
	serve = 1
	run   = 2
	ask   = 3
	tell  = 4
	prove = 5
	bind  = 6
	leak  = 7
)

// What is said, as texts.
func response(u, challenge, peer string) string {
	return "[" + u + " (" + challenge + " " + peer + ")]"
}
func accept(u, r string) string { return "[" + u + " (" + r + " ok)]" }
func bound(u, r, nonce, h string) string {
	return "[##(" + u + " " + r + ") (" + nonce + " " + h + ")]"
}

// do lets events happen, that must all do something.
func do(t *testing.T, w *symw.World, l ...symw.Event) {
	t.Helper()
	for i, x := range l {
		if !w.Do(x) {
			t.Fatalf("%d: nothing of %v", i, x)
		}
	}
}

// none tells whether these do nothing.
func none(t *testing.T, w *symw.World, l ...symw.Event) {
	t.Helper()
	sessions, runs, holds := w.Sessions(), w.Runs(), w.Holds()
	for _, x := range l {
		if w.Do(x) || !slices.Equal(w.Sessions(), sessions) || !slices.Equal(w.Runs(), runs) || w.Holds() != holds {
			t.Errorf("something of %v", x)
		}
	}
}

// honest is a world whose session 0 delivers to the user 2 over h1.
func honest(t *testing.T) *symw.World {
	w := symw.New()
	r := response("p2", "c0", "q0")
	do(t, w, symw.Event{Kind: serve, H: "h1"}, symw.Event{Kind: run, U: 2, H: "h1"}, symw.Event{Kind: ask, A: "n0", B: "c0"}, symw.Event{Kind: prove, U: 2, A: "q0", B: r}, symw.Event{Kind: tell, A: accept("p2", r)}, symw.Event{Kind: bind, A: bound("p2", r, "n0", "h1")})
	return w
}

// P43.1, P43.2: what is known at first.
func TestNew(t *testing.T) {
	w := symw.New()
	if len(w.Sessions()) != 0 || len(w.Runs()) != 0 || w.Holds() != 5 {
		t.Error(w.Sessions(), w.Runs(), w.Holds())
	}
	for s, want := range map[string]bool{"ok": true, "x0": true, "x3": true, "x4": false, "p0": false, "p3": false, "n0": false, "h1": false, "(ok x1)": true, "#x2": true, "[x0 ok]": true, "[p0 ok]": false, "": false, "(ok": false, "OK": false, "ok ": false} {
		if w.Knows(s) != want {
			t.Errorf("Knows(%q): %v", s, !want)
		}
	}
}

// P43.1: an honest run, step by step: what is said by each.
func TestHonest(t *testing.T) {
	w := symw.New()
	r := response("p2", "c0", "q0")
	steps := []struct {
		x        symw.Event
		says     []string
		sessions []symw.End
		runs     []symw.End
		holds    int
	}{
		{symw.Event{Kind: serve, U: 9, H: "h1"}, []string{"n0", "c0", "h1"}, []symw.End{{Hash: "h1", Nonce: "n0"}}, nil, 8},
		{symw.Event{Kind: run, U: 2, H: "h1"}, nil, []symw.End{{Hash: "h1", Nonce: "n0"}}, []symw.End{{User: 2, Hash: "h1"}}, 8},
		{symw.Event{Kind: ask, U: 7, A: "n0", B: "c0"}, []string{"q0", r}, []symw.End{{Hash: "h1", Nonce: "n0"}}, []symw.End{{State: 1, User: 2, Hash: "h1", Nonce: "n0"}}, 10},
		{symw.Event{Kind: prove, U: 2, A: "q0", B: r}, []string{accept("p2", r)}, []symw.End{{State: 1, User: 2, Hash: "h1", Nonce: "n0"}}, []symw.End{{State: 1, User: 2, Hash: "h1", Nonce: "n0"}}, 11},
		{symw.Event{Kind: tell, A: accept("p2", r), B: "?"}, []string{bound("p2", r, "n0", "h1")}, []symw.End{{State: 1, User: 2, Hash: "h1", Nonce: "n0"}}, []symw.End{{State: 2, User: 2, Hash: "h1", Nonce: "n0"}}, 12},
		{symw.Event{Kind: bind, A: bound("p2", r, "n0", "h1"), B: "?"}, nil, []symw.End{{State: 2, User: 2, Hash: "h1", Nonce: "n0"}}, []symw.End{{State: 2, User: 2, Hash: "h1", Nonce: "n0"}}, 12},
	}
	for i, s := range steps {
		for _, said := range s.says {
			if w.Knows(said) {
				t.Errorf("%d: %s was known", i, said)
			}
		}
		do(t, w, s.x)
		for _, said := range s.says {
			if !w.Knows(said) {
				t.Errorf("%d: %s is not known", i, said)
			}
		}
		if !slices.Equal(w.Sessions(), s.sessions) || !slices.Equal(w.Runs(), s.runs) || w.Holds() != s.holds {
			t.Errorf("%d: %v, %v, %d", i, w.Sessions(), w.Runs(), w.Holds())
		}
	}
	for u := range 4 {
		if w.Knows("p"+strconv.Itoa(u)) || w.Leaked(u) {
			t.Error("a password is known", u)
		}
	}
}

// P43.1: which sessions and runs may come, and how many.
func TestComes(t *testing.T) {
	w := symw.New()
	none(t, w, symw.Event{Kind: serve}, symw.Event{Kind: serve, H: "g1"}, symw.Event{Kind: serve, H: "H1"}, symw.Event{Kind: serve, H: "1h"}, symw.Event{Kind: serve, H: "h12345678"}, symw.Event{Kind: serve, H: "h 1"}, symw.Event{Kind: serve, H: "#h"}, symw.Event{Kind: serve, H: "(h1 h2)"}, symw.Event{Kind: serve, H: "hA"},
		symw.Event{Kind: run, U: -1, H: "h1"}, symw.Event{Kind: run, U: 4, H: "h1"}, symw.Event{Kind: run, U: math.MaxInt, H: "h1"}, symw.Event{Kind: run, H: "x1"}, symw.Event{Kind: run}, symw.Event{}, symw.Event{Kind: 8, H: "h1"}, symw.Event{Kind: -1, H: "h1"}, symw.Event{Kind: math.MinInt},
		symw.Event{Kind: leak, U: 4}, symw.Event{Kind: leak, U: -1}, symw.Event{Kind: ask, A: "ok", B: "ok"}, symw.Event{Kind: tell, A: "ok"}, symw.Event{Kind: prove, A: "ok", B: "ok"}, symw.Event{Kind: bind, A: "ok"})
	for i, h := range []string{"h", "h1234567", "hello", "h1", "h1", "h2"} {
		do(t, w, symw.Event{Kind: serve, H: h, I: 99, U: -4}, symw.Event{Kind: run, U: i % 4, H: h, I: 99})
		n := strconv.Itoa(i)
		if s := w.Sessions(); s[i] != (symw.End{Hash: h, Nonce: "n" + n}) || !w.Knows("n"+n) || !w.Knows("c"+n) || !w.Knows(h) || w.Knows("q"+n) {
			t.Error(i, s)
		}
		if r := w.Runs(); r[i] != (symw.End{User: i % 4, Hash: h}) {
			t.Error(i, r)
		}
	}
	none(t, w, symw.Event{Kind: serve, H: "h7"}, symw.Event{Kind: run, H: "h7"})
	if w.Knows("n6") || w.Knows("h7") || len(w.Sessions()) != 6 || len(w.Runs()) != 6 {
		t.Error("a seventh")
	}
}

// P43.1: what does not come is what the listener does not know, or is none, or is of another state.
func TestNothing(t *testing.T) {
	w := symw.New()
	do(t, w, symw.Event{Kind: serve, H: "h1"}, symw.Event{Kind: run, U: 2, H: "h1"})
	r := response("p2", "c0", "q0")
	none(t, w, symw.Event{Kind: ask, A: "n0", B: "c1"}, symw.Event{Kind: ask, A: "p2", B: "c0"}, symw.Event{Kind: ask, A: "n0"}, symw.Event{Kind: ask, B: "c0"}, symw.Event{Kind: ask, A: "n0 ", B: "c0"}, symw.Event{Kind: ask, A: "n0", B: "(c0"}, symw.Event{Kind: ask, I: 1, A: "n0", B: "c0"}, symw.Event{Kind: ask, I: -1, A: "n0", B: "c0"},
		symw.Event{Kind: tell, A: "ok"}, symw.Event{Kind: bind, A: "ok"}, symw.Event{Kind: prove, U: 2, A: "q0", B: "ok"}, symw.Event{Kind: prove, U: 2, A: "x0", B: response("p2", "c0", "x0")}, symw.Event{Kind: prove, U: 4, A: "x0", B: "ok"}, symw.Event{Kind: prove, U: -1, A: "x0", B: "ok"}, symw.Event{Kind: prove, I: 1, A: "x0", B: "ok"}, symw.Event{Kind: prove, I: -1, A: "x0", B: "ok"})
	do(t, w, symw.Event{Kind: ask, A: "n0", B: "c0"})
	none(t, w, symw.Event{Kind: ask, A: "n0", B: "c0"}, symw.Event{Kind: tell, A: accept("p2", r)}, symw.Event{Kind: tell, I: 1, A: "ok"}, symw.Event{Kind: tell, I: math.MinInt, A: "ok"}, symw.Event{Kind: tell})
	do(t, w, symw.Event{Kind: prove, U: 2, A: "q0", B: r})
	none(t, w, symw.Event{Kind: prove, U: 2, A: "q0", B: r}, symw.Event{Kind: bind, A: bound("p2", r, "n0", "h1")}, symw.Event{Kind: bind, I: 1, A: "ok"}, symw.Event{Kind: bind, I: -1, A: "ok"})
	w = honest(t)
	none(t, w, symw.Event{Kind: ask, A: "n0", B: "c0"}, symw.Event{Kind: tell, A: "ok"}, symw.Event{Kind: tell, A: accept("p2", r)}, symw.Event{Kind: prove, U: 2, A: "q0", B: r}, symw.Event{Kind: bind, A: bound("p2", r, "n0", "h1")}, symw.Event{Kind: bind, A: "ok"})
}

// P43.1: what comes as another one fails, for good.
func TestFails(t *testing.T) {
	r := response("p2", "c0", "q0")
	for i, x := range []symw.Event{{Kind: prove, U: 2, A: "q0", B: "ok"}, {Kind: prove, U: 1, A: "q0", B: r}, {Kind: prove, U: 2, A: "x0", B: r}, {Kind: prove, U: 2, A: "(q0 q0)", B: r}} {
		w := symw.New()
		do(t, w, symw.Event{Kind: serve, H: "h1"}, symw.Event{Kind: run, U: 2, H: "h1"}, symw.Event{Kind: ask, A: "n0", B: "c0"}, x)
		if s := w.Sessions(); s[0] != (symw.End{State: 3, Hash: "h1", Nonce: "n0"}) {
			t.Error(i, s)
		}
		none(t, w, symw.Event{Kind: prove, U: 2, A: "q0", B: r}, symw.Event{Kind: bind, A: "ok"})
	}
	for i, a := range []string{"ok", r, "(" + r + " ok)"} {
		w := symw.New()
		do(t, w, symw.Event{Kind: serve, H: "h1"}, symw.Event{Kind: run, U: 2, H: "h1"}, symw.Event{Kind: ask, A: "n0", B: "c0"}, symw.Event{Kind: tell, A: a})
		if l := w.Runs(); l[0] != (symw.End{State: 3, User: 2, Hash: "h1", Nonce: "n0"}) || w.Holds() != 10 {
			t.Error(i, l)
		}
		none(t, w, symw.Event{Kind: tell, A: "ok"}, symw.Event{Kind: ask, A: "n0", B: "c0"})
	}
	for i, a := range []string{"ok", r, "(n0 h1)", accept("p2", r)} {
		w := symw.New()
		do(t, w, symw.Event{Kind: serve, H: "h1"}, symw.Event{Kind: run, U: 2, H: "h1"}, symw.Event{Kind: ask, A: "n0", B: "c0"}, symw.Event{Kind: prove, U: 2, A: "q0", B: r}, symw.Event{Kind: bind, A: a})
		if s := w.Sessions(); s[0] != (symw.End{State: 3, User: 2, Hash: "h1", Nonce: "n0"}) {
			t.Error(i, s)
		}
		none(t, w, symw.Event{Kind: bind, A: "ok"})
	}
}

// P43.1: a user that saw another certificate, or another nonce, binds no session.
func TestStandsBetween(t *testing.T) {
	r := response("p2", "c0", "q0")
	for i, c := range []struct{ h, nonce string }{{"h2", "n0"}, {"h1", "x0"}, {"h1", "n1"}, {"h1", "(n0 n0)"}} {
		w := symw.New()
		do(t, w, symw.Event{Kind: serve, H: "h1"}, symw.Event{Kind: serve, H: "h1"}, symw.Event{Kind: run, U: 2, H: c.h}, symw.Event{Kind: ask, A: c.nonce, B: "c0"}, symw.Event{Kind: prove, U: 2, A: "q0", B: r}, symw.Event{Kind: tell, A: accept("p2", r)}, symw.Event{Kind: bind, A: bound("p2", r, c.nonce, c.h)})
		if s := w.Sessions(); s[0].State != 3 || s[0].User != 2 {
			t.Error(i, s)
		}
		if l := w.Runs(); l[0] != (symw.End{State: 2, User: 2, Hash: c.h, Nonce: c.nonce}) {
			t.Error(i, l)
		}
	}
}

// P43.1, P43.2: who has a password that was leaked may be its user.
func TestLeak(t *testing.T) {
	w := symw.New()
	r := response("p1", "c0", "x0")
	do(t, w, symw.Event{Kind: serve, H: "h1"}, symw.Event{Kind: leak, U: 1, H: "?", A: "?"}, symw.Event{Kind: leak, U: 1})
	if !w.Knows("p1") || !w.Leaked(1) || w.Leaked(0) || w.Leaked(-1) || w.Leaked(4) || w.Leaked(math.MaxInt) || w.Holds() != 9 {
		t.Error("leaked", w.Holds())
	}
	do(t, w, symw.Event{Kind: prove, U: 1, A: "x0", B: r}, symw.Event{Kind: bind, A: bound("p1", r, "n0", "h1")})
	if s := w.Sessions(); s[0] != (symw.End{State: 2, User: 1, Hash: "h1", Nonce: "n0"}) || len(w.Runs()) != 0 {
		t.Error(s)
	}
}

// wide is a text of a size, of what is known.
func wide(n int) string {
	switch {
	case n == 1:
		return "ok"
	case n%2 == 0:
		return "#" + wide(n-1)
	}
	left := (n - 1) / 2
	return "(" + wide(left) + " " + wide(n-1-left) + ")"
}

// P43.1: what is too great to be a term is not said, and nothing happens then.
func TestTooGreat(t *testing.T) {
	w := symw.New()
	do(t, w, symw.Event{Kind: serve, H: "h1"}, symw.Event{Kind: run, U: 2, H: "h1"})
	// The response has four more than the challenge, and what is said two more than that.
	none(t, w, symw.Event{Kind: ask, A: "n0", B: wide(195)}, symw.Event{Kind: ask, A: "n0", B: wide(197)}, symw.Event{Kind: ask, A: "n0", B: strings.Repeat("#", 37) + "ok"})
	do(t, w, symw.Event{Kind: ask, A: wide(200), B: wide(194)})
	if l := w.Runs(); l[0].State != 1 || l[0].Nonce != wide(200) {
		t.Error(l[0].State)
	}
	// What would be an answer is too great: another one fails.
	do(t, w, symw.Event{Kind: tell, A: "ok"})
	// A binding that is too great is not said: the run waits on.
	do(t, w, symw.Event{Kind: leak, U: 2}, symw.Event{Kind: run, U: 2, H: "h1"}, symw.Event{Kind: ask, I: 1, A: wide(200), B: "c0"})
	r := response("p2", "c0", "q1")
	none(t, w, symw.Event{Kind: tell, I: 1, A: accept("p2", r)})
	if l := w.Runs(); l[1].State != 1 {
		t.Error(l[1].State)
	}
	do(t, w, symw.Event{Kind: tell, I: 1, A: "ok"})
	if l := w.Runs(); l[0].State != 3 || l[1].State != 3 {
		t.Error(l)
	}
	// A response that is too great can't be; one whose answer is too great does nothing.
	huge := response("p2", "c0", wide(193))
	none(t, w, symw.Event{Kind: prove, U: 2, A: wide(193), B: huge})
	big := response("p2", "c0", wide(192))
	do(t, w, symw.Event{Kind: prove, U: 2, A: wide(192), B: big})
	// What would have to come is too great.
	none(t, w, symw.Event{Kind: bind, A: "ok"})
	if s := w.Sessions(); s[0] != (symw.End{State: 1, User: 2, Hash: "h1", Nonce: "n0"}) {
		t.Error(s)
	}
	do(t, w, symw.Event{Kind: serve, H: "h1"}, symw.Event{Kind: prove, I: 1, U: 2, A: wide(200), B: "ok"})
	if s := w.Sessions(); s[1].State != 3 {
		t.Error("of what can't be", s)
	}
}

// P43.2: a world that nobody made.
func TestNobody(t *testing.T) {
	for _, w := range []*symw.World{nil, {}} {
		for kind := range 9 {
			if w.Do(symw.Event{Kind: kind, H: "h1", A: "ok", B: "ok"}) {
				t.Error(kind)
			}
		}
		if len(w.Sessions()) != 0 || len(w.Runs()) != 0 || w.Knows("ok") || w.Leaked(0) || w.Holds() != 0 {
			t.Error("something is told")
		}
	}
}

// P43.2: answers are memory of their own.
func TestNothingIsShared(t *testing.T) {
	w := honest(t)
	w.Sessions()[0].State = 9
	w.Runs()[0].Hash = "h9"
	if w.Sessions()[0].State != 2 || w.Runs()[0].Hash != "h1" {
		t.Error(w.Sessions(), w.Runs())
	}
}

// chance is one of these.
func chance(r *rand.Rand, l ...string) string { return l[r.Intn(len(l))] }

// tried is an event as somebody who stands between would try it: most are what fits, of one session or another.
func tried(r *rand.Rand) symw.Event {
	i, u := r.Intn(3), r.Intn(3)
	n := strconv.Itoa(i)
	p := "p" + strconv.Itoa(u)
	challenge, peer := "c"+strconv.Itoa(r.Intn(3)), chance(r, "q0", "q1", "q2", "x0")
	answer := response(p, challenge, peer)
	nonce, h := chance(r, "n0", "n1", "n2", "x0"), chance(r, "h1", "h2")
	switch r.Intn(20) {
	case 0:
		return symw.Event{Kind: serve, H: "h1"}
	case 1:
		return symw.Event{Kind: run, U: u, H: h}
	case 2, 3:
		return symw.Event{Kind: ask, I: i, A: nonce, B: challenge}
	case 4, 5, 6, 7:
		return symw.Event{Kind: tell, I: i, A: accept(p, response(p, challenge, "q"+n))}
	case 8, 9, 10, 11:
		return symw.Event{Kind: prove, I: i, U: u, A: peer, B: response(p, "c"+n, peer)}
	case 12, 13, 14, 15, 16, 17, 18:
		return symw.Event{Kind: bind, I: i, A: bound(p, answer, chance(r, nonce, "n"+n), chance(r, h, "h1"))}
	}
	if r.Intn(12) > 0 {
		return symw.Event{Kind: serve, H: "h1"}
	}
	return symw.Event{Kind: failing(r), I: i, U: r.Intn(2), A: chance(r, "ok", answer, accept(p, answer)), B: answer}
}

// failing is a kind by which something fails, or, seldom, a leak.
func failing(r *rand.Rand) int {
	if r.Intn(8) == 0 {
		return leak
	}
	return []int{tell, prove, bind}[r.Intn(3)]
}

// P43.3, P43.4: whatever the listener says, a session that delivers to a user that was not leaked has a run of that user, with its nonce, over its certificate; and its password is never known.
func TestAgreement(t *testing.T) {
	r := rand.New(rand.NewSource(43))
	delivered, other, failed := 0, 0, 0
	for range 2000 {
		w := symw.New()
		for range 300 {
			w.Do(tried(r))
		}
		for u := range 4 {
			if w.Knows("p"+strconv.Itoa(u)) != w.Leaked(u) {
				t.Fatal("the password", u)
			}
		}
		for _, s := range w.Sessions() {
			runs := slices.Contains(w.Runs(), symw.End{State: 2, User: s.User, Hash: s.Hash, Nonce: s.Nonce})
			switch {
			case s.State == 3:
				failed++
			case s.State == 2 && w.Leaked(s.User):
				other++
			case s.State == 2 && !runs:
				t.Fatal(s, w.Runs())
			case s.State == 2:
				delivered++
			}
		}
	}
	if delivered < 10 || other < 10 || failed < 10 {
		t.Error("too few were tried", delivered, other, failed)
	}
}
