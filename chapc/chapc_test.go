package chapc_test

import (
	"bytes"
	"reflect"
	"strings"
	"testing"

	"euphroe/api"
	"euphroe/chap2"
	"euphroe/chapc"
	"euphroe/chaps"
	"euphroe/mppe"
	"euphroe/nthash"
)

func challenge() [16]byte { return [16]byte{1, 2, 3, 4, 5, 6, 7, 8, 9, 10, 11, 12, 13, 14, 15, 16} }
func peer() [16]byte      { return [16]byte{99, 98, 97} }

// asks is a challenge of an identifier.
func asks(id byte, value [16]byte) api.Control { return chaps.Lay(1, id, value[:], "srv") }

// proof is what a client must answer, hear, and have as its key.
func proof(id byte, value [16]byte, name, password string) (api.Control, string, [32]byte) {
	h, _ := nthash.Of(password)
	c := chap2.Challenge(peer(), value, name)
	r := chap2.Response(c, h)
	return chaps.Lay(2, id, chap2.Value(peer(), r), name), chap2.Answer(h, r, c), mppe.From(h, r, false)
}

// same tells whether it is just that packet.
func same(l []api.Control, want api.Control) bool {
	return len(l) == 1 && l[0].Code == want.Code && l[0].ID == want.ID && bytes.Equal(l[0].Data, want.Data)
}

// answered is one that answered a challenge of the identifier 7.
func answered(t *testing.T) chapc.Prover {
	x, l := chapc.New(`DOM\ann`, "secret", peer()).Take(asks(7, challenge()))
	want, known, _ := proof(7, challenge(), `DOM\ann`, "secret")
	if !same(l, want) || x.State() != 1 || x.Known() != known || x.Key() != [32]byte{} || x.Code() != 0 {
		t.Fatal(l, x.State(), x.Known())
	}
	return x
}

// ends tells of one: its state, its code, whether it has its key, and what it knows.
func ends(x chapc.Prover, state, code int, key bool) bool {
	_, known, k := proof(7, challenge(), `DOM\ann`, "secret")
	if !key {
		k = [32]byte{}
	}
	return x.State() == state && x.Code() == code && x.Key() == k && x.Known() == known
}

// P30.2: of a new one.
func TestNew(t *testing.T) {
	for _, x := range []chapc.Prover{{}, chapc.New("ann", "secret", peer())} {
		if x.State() != 0 || x.Key() != [32]byte{} || x.Code() != 0 || x.Known() != "" {
			t.Error(x)
		}
		for _, c := range []api.Control{{}, {Code: 2}, {Code: 3, Data: []byte("S=")}, {Code: 4}, {Code: 5}, {Code: 255}} {
			if y, l := x.Take(c); len(l) != 0 || y != x {
				t.Errorf("%v: %v", c, l)
			}
		}
	}
}

// P30.1: challenges that may not be are nothing, as it waits, and as it answered.
func TestChallengesRefused(t *testing.T) {
	for _, x := range []chapc.Prover{chapc.New("ann", "secret", peer()), answered(t)} {
		for _, c := range []api.Control{{Code: 1, ID: 7}, {Code: 1, ID: 7, Data: []byte{16, 1}}, chaps.Lay(1, 7, make([]byte, 15), "s"), chaps.Lay(1, 7, make([]byte, 17), ""), chaps.Lay(1, 7, nil, "s"), {Code: 1, ID: 7, Data: append([]byte{17}, make([]byte, 16)...)}} {
			if y, l := x.Take(c); len(l) != 0 || y != x {
				t.Errorf("%v: %v", c, l)
			}
		}
	}
	for _, password := range []string{strings.Repeat("x", 65), "\xff"} {
		x := chapc.New("ann", password, peer())
		if y, l := x.Take(asks(1, challenge())); len(l) != 0 || y != x {
			t.Error(l)
		}
	}
}

// P30.1: it answers as often as it is asked, each time for that.
func TestAnswersAgain(t *testing.T) {
	x := answered(t)
	for id := range 5 {
		value := [16]byte{byte(id), 200}
		want, known, _ := proof(byte(id), value, `DOM\ann`, "secret")
		var l []api.Control
		if x, l = x.Take(asks(byte(id), value)); !same(l, want) || x.State() != 1 || x.Known() != known {
			t.Errorf("%d: %v", id, l)
		}
	}
	if y, _ := x.Take(api.Control{Code: 3, ID: 7, Data: []byte("S=")}); y != x {
		t.Error("an identifier that was, by", y.State())
	}
	_, known, key := proof(4, [16]byte{4, 200}, `DOM\ann`, "secret")
	if y, _ := x.Take(api.Control{Code: 3, ID: 4, Data: []byte(known)}); y.State() != 2 || y.Key() != key {
		t.Error(y.State())
	}
}

// P30.1, P30.2: a success that tells the answer, and one that tells another one.
func TestSuccess(t *testing.T) {
	x := answered(t)
	known := x.Known()
	for _, c := range []struct {
		data  string
		state int
	}{{known, 2}, {known + " M=Welcome", 2}, {known + " ", 2}, {known + "x", 3}, {known[:41], 3}, {"", 3}, {strings.ToLower(known), 3}, {"S=" + strings.Repeat("0", 40), 3}, {"S=" + strings.Repeat("0", 40) + " M=", 3}, {" " + known, 3}} {
		y, l := x.Take(api.Control{Code: 3, ID: 7, Data: []byte(c.data)})
		if len(l) != 0 || !ends(y, c.state, 0, c.state == 2) {
			t.Errorf("%q: %v, %d, %d", c.data, l, y.State(), y.Code())
		}
	}
}

// P30.1, P30.2: a failure, and its code.
func TestFailure(t *testing.T) {
	x := answered(t)
	fine, _ := chap2.Fail(chap2.Failure{Code: 691, Text: "No"})
	again, _ := chap2.Fail(chap2.Failure{Code: 9999, Again: true, Challenge: challenge()})
	for _, c := range []struct {
		data []byte
		code int
	}{{fine, 691}, {again, 9999}, {nil, 0}, {[]byte("E=691"), 0}, {fine[1:], 0}, {append(bytes.Clone(fine), 200), 0}} {
		y, l := x.Take(api.Control{Code: 4, ID: 7, Data: c.data})
		if len(l) != 0 || !ends(y, 3, c.code, false) {
			t.Errorf("%q: %v, %d, %d", c.data, l, y.State(), y.Code())
		}
	}
}

// P30.1: another identifier, and other codes, are nothing.
func TestNothing(t *testing.T) {
	x := answered(t)
	fine, _ := chap2.Fail(chap2.Failure{Code: 691})
	for _, c := range []api.Control{{Code: 3, ID: 6, Data: []byte(x.Known())}, {Code: 4, ID: 8, Data: fine}, {Code: 2, ID: 7, Data: []byte(x.Known())}, {Code: 0, ID: 7}, {Code: 5, ID: 7, Data: fine}} {
		if y, l := x.Take(c); len(l) != 0 || y != x {
			t.Errorf("%v: %v", c, l)
		}
	}
}

// P30.1: whoever is accepted, or refused, hears nothing more.
func TestEnded(t *testing.T) {
	x := answered(t)
	fine, _ := chap2.Fail(chap2.Failure{Code: 691})
	success, failure := api.Control{Code: 3, ID: 7, Data: []byte(x.Known())}, api.Control{Code: 4, ID: 7, Data: fine}
	accepted, _ := x.Take(success)
	refused, _ := x.Take(failure)
	wrong, _ := x.Take(api.Control{Code: 3, ID: 7})
	for _, y := range []chapc.Prover{accepted, refused, wrong} {
		for _, c := range []api.Control{success, failure, asks(7, challenge()), asks(8, challenge()), {Code: 3, ID: 7}, {Code: 2, ID: 7}} {
			if z, l := y.Take(c); len(l) != 0 || z != y {
				t.Errorf("%d: %v", y.State(), c)
			}
		}
	}
}

// P30.3: both come to one key, if the password is the same; else to refused both.
func TestBothEnds(t *testing.T) {
	for _, c := range []struct {
		name, password string
		fine           bool
	}{{"ann", "secret", true}, {`X\ann`, "secret", true}, {"ann", "other", false}, {"eve", "secret", false}, {"", "", false}} {
		s, l := chaps.New("srv", []chaps.User{{Name: "ann", Password: "secret"}}).Start(challenge())
		x := chapc.New(c.name, c.password, peer())
		for len(l) > 0 {
			var up []api.Control
			for _, p := range l {
				var more []api.Control
				x, more = x.Take(p)
				up = append(up, more...)
			}
			l = nil
			for _, p := range up {
				var more []api.Control
				s, more = s.Take(p)
				l = append(l, more...)
			}
		}
		if c.fine && (s.State() != 2 || x.State() != 2 || s.Key() != x.Key() || s.Key() == [32]byte{}) {
			t.Errorf("%v: %d, %d", c, s.State(), x.State())
		}
		if !c.fine && (s.State() != 3 || x.State() != 3 || x.Code() != 691 || s.Key() != [32]byte{} || x.Key() != [32]byte{}) {
			t.Errorf("%v: %d, %d, %d", c, s.State(), x.State(), x.Code())
		}
	}
}

// P30.2: no call turns the one that it is called of.
func TestNothingIsTurned(t *testing.T) {
	x, again := answered(t), answered(t)
	c := asks(9, challenge())
	x.Take(c)
	x.Take(api.Control{Code: 3, ID: 7})
	x.Take(api.Control{Code: 4, ID: 7})
	if x != again || !reflect.DeepEqual(c, asks(9, challenge())) {
		t.Error("turned")
	}
}
