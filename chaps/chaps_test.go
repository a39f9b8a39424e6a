package chaps_test

import (
	"bytes"
	"reflect"
	"slices"
	"strings"
	"testing"

	"euphroe/api"
	"euphroe/chap2"
	"euphroe/chaps"
	"euphroe/mppe"
	"euphroe/nthash"
)

// challenge and peer are both ends' bytes.
func challenge() [16]byte { return [16]byte{1, 2, 3, 4, 5, 6, 7, 8, 9, 10, 11, 12, 13, 14, 15, 16} }
func peer() [16]byte      { return [16]byte{99, 98, 97} }

// users are some; the second one's password may not be, and the last one's name stood already.
func users() []chaps.User {
	return []chaps.User{{Name: "ann", Password: "secret"}, {Name: "bad", Password: strings.Repeat("x", 65)}, {Name: `DOM\bob`, Password: "pass"}, {Name: "", Password: "none"}, {Name: "ann", Password: "other"}, {Name: "bad", Password: "fine"}}
}

// pack is a packet.
func pack(code, id byte, data ...byte) api.Control {
	return api.Control{Code: code, ID: id, Data: data}
}

// same tells whether these are the packets.
func same(got []api.Control, want ...api.Control) bool {
	return slices.EqualFunc(got, want, func(a, b api.Control) bool { return a.Code == b.Code && a.ID == b.ID && bytes.Equal(a.Data, b.Data) })
}

// asked is one that asks.
func asked(t *testing.T) chaps.Asker {
	x, l := chaps.New("srv", users()).Start(challenge())
	if !same(l, api.Control{Code: 1, ID: 1, Data: slices.Concat([]byte{16}, bytes16(challenge()), []byte("srv"))}) || x.State() != 1 {
		t.Fatal(l, x.State())
	}
	return x
}

func bytes16(b [16]byte) []byte { return b[:] }

// response is one by a password.
func response(id byte, name, password string) api.Control {
	r, _ := chap2.Prove(peer(), challenge(), name, password)
	return chaps.Lay(2, id, chap2.Value(peer(), r), name)
}

// success is what a right response gets, and its key.
func success(name, password string) (api.Control, [32]byte) {
	h, _ := nthash.Of(password)
	c := chap2.Challenge(peer(), challenge(), name)
	r := chap2.Response(c, h)
	return api.Control{Code: 3, ID: 1, Data: []byte(chap2.Answer(h, r, c) + " M=Welcome")}, mppe.From(h, r, true)
}

// failure is what a wrong one gets.
func failure() api.Control {
	return api.Control{Code: 4, ID: 1, Data: []byte("E=691 R=0 C=0102030405060708090A0B0C0D0E0F10 V=3 M=No")}
}

// P29.1: a value with its length, and a name.
func TestLayAndParse(t *testing.T) {
	long := bytes.Repeat([]byte{7}, 300)
	for _, c := range []struct {
		value []byte
		name  string
		want  []byte
	}{{nil, "", []byte{0}}, {[]byte{5, 6}, "ab", []byte{2, 5, 6, 'a', 'b'}}, {nil, "x\xff", []byte{0, 'x', 255}}, {long, "n", slices.Concat([]byte{255}, long[:255], []byte("n"))}, {long[:255], "", slices.Concat([]byte{255}, long[:255])}} {
		got := chaps.Lay(9, 8, c.value, c.name)
		if !same([]api.Control{got}, api.Control{Code: 9, ID: 8, Data: c.want}) {
			t.Errorf("Lay of %d, %q: %v", len(c.value), c.name, got)
		}
		value, name, e := chaps.Parse(got)
		if !bytes.Equal(value, c.value[:min(len(c.value), 255)]) || name != c.name || e != api.OK {
			t.Errorf("Parse of %d, %q: %v, %q, %d", len(c.value), c.name, value, name, e)
		}
	}
	for _, data := range [][]byte{nil, {1}, {2, 1}, {255, 1, 2}, slices.Concat([]byte{255}, long[:254])} {
		if value, name, e := chaps.Parse(api.Control{Code: 1, Data: data}); len(value) != 0 || name != "" || e != api.ErrEnd {
			t.Errorf("Parse(%x): %v, %q, %d", data, value, name, e)
		}
	}
}

// P29.1: the first one of a bare name.
func TestFind(t *testing.T) {
	for _, c := range []struct {
		name, password string
		is             bool
	}{{"ann", "secret", true}, {`X\ann`, "secret", true}, {"bob", "pass", true}, {`OTHER\bob`, "pass", true}, {"", "none", true}, {`X\`, "none", true}, {"Ann", "", false}, {"an", "", false}, {"annn", "", false}, {"DOM", "", false}, {"ann ", "", false}} {
		u, is := chaps.Find(users(), c.name)
		if u.Password != c.password || is != c.is || !is && u != (chaps.User{}) {
			t.Errorf("Find(%q): %v, %v", c.name, u, is)
		}
	}
	if u, is := chaps.Find(nil, ""); is || u != (chaps.User{}) {
		t.Error(u, is)
	}
}

// P29.2: one that is idle does nothing but start.
func TestIdle(t *testing.T) {
	x := chaps.New("srv", users())
	if x.State() != 0 || x.Name() != "" || x.Key() != [32]byte{} {
		t.Error(x.State(), x.Name(), x.Key())
	}
	for range 40 {
		y, l := x.Tick()
		if len(l) != 0 || y.State() != 0 {
			t.Fatal(l)
		}
		x = y
	}
	for _, id := range []byte{0, 1} {
		if y, l := x.Take(response(id, "ann", "secret")); len(l) != 0 || y.State() != 0 {
			t.Error(l)
		}
	}
	asked(t)
}

// P29.2: start of one that is not idle is nothing.
func TestStartOnce(t *testing.T) {
	x := asked(t)
	proved, _ := x.Take(response(1, "ann", "secret"))
	refused, _ := x.Take(response(1, "ann", "wrong"))
	for _, y := range []chaps.Asker{x, proved, refused} {
		if z, l := y.Start([16]byte{5}); len(l) != 0 || !reflect.DeepEqual(y, z) {
			t.Error(l, z.State())
		}
	}
}

// P29.2: it asks five times in all, and is refused then without a packet.
func TestTick(t *testing.T) {
	x := asked(t)
	for tick := 1; tick <= 20; tick++ {
		var l []api.Control
		x, l = x.Tick()
		if tick%3 == 0 && tick < 15 {
			if !same(l, api.Control{Code: 1, ID: 1, Data: slices.Concat([]byte{16}, bytes16(challenge()), []byte("srv"))}) {
				t.Errorf("%d: %v", tick, l)
			}
		} else if len(l) != 0 {
			t.Errorf("%d: %v", tick, l)
		}
		want := 1
		if tick >= 15 {
			want = 3
		}
		if x.State() != want {
			t.Fatal(tick, x.State())
		}
	}
	if y, l := x.Take(response(1, "ann", "secret")); len(l) != 0 || y.State() != 3 || y.Key() != [32]byte{} {
		t.Error("behind it", l)
	}
}

// P29.2, P29.3: who has the password is proved, by the name that the response has.
func TestProved(t *testing.T) {
	for _, c := range [][2]string{{"ann", "secret"}, {`ANY\ann`, "secret"}, {"bob", "pass"}, {`DOM\bob`, "pass"}, {"", "none"}} {
		for _, ticks := range []int{0, 2, 7, 14} {
			x := asked(t)
			for range ticks {
				x, _ = x.Tick()
			}
			want, key := success(c[0], c[1])
			x, l := x.Take(response(1, c[0], c[1]))
			if !same(l, want) || x.State() != 2 || x.Name() != c[0] || x.Key() != key {
				t.Errorf("%q: %v, %d, %q", c, l, x.State(), x.Name())
			}
			for _, again := range []api.Control{response(1, c[0], c[1]), response(1, "ann", "wrong"), pack(2, 1)} {
				y, l := x.Take(again)
				if !same(l, want) || y.State() != 2 || y.Name() != c[0] || y.Key() != key {
					t.Errorf("%q again: %v, %d", c, l, y.State())
				}
			}
			for range 30 {
				if x, l = x.Tick(); len(l) != 0 || x.State() != 2 {
					t.Fatal(l)
				}
			}
		}
	}
}

// P29.2, P29.3: who has another one is refused, and hears it again.
func TestRefused(t *testing.T) {
	flipped := response(1, "ann", "secret")
	flipped.Data[49-1] ^= 1
	other := response(1, "ann", "secret")
	other.Data = append(other.Data[:50:50], "bob"...)
	// By the digest of no password, and by the empty one, nobody is proved that has none, or one that may not be.
	noughts := chap2.Response(chap2.Challenge(peer(), challenge(), "bad"), nthash.Hash{})
	nobody := chaps.Lay(2, 1, chap2.Value(peer(), noughts), "bad")
	for _, c := range []api.Control{nobody, response(1, "eve", ""), response(1, "bad", ""), response(1, "ann", "other"), response(1, "ann", "Secret"), response(1, "ann", ""), response(1, "eve", "secret"), response(1, "bad", strings.Repeat("x", 65)), response(1, "bad", "fine"), response(1, "Ann", "secret"), flipped, other} {
		x := asked(t)
		x, l := x.Take(c)
		if !same(l, failure()) || x.State() != 3 || x.Name() != "" || x.Key() != [32]byte{} {
			t.Errorf("%v: %v, %d", c, l, x.State())
		}
		for _, again := range []api.Control{response(1, "ann", "secret"), pack(2, 1, 9)} {
			if y, l := x.Take(again); !same(l, failure()) || y.State() != 3 || y.Key() != [32]byte{} {
				t.Error("again", l)
			}
		}
		for range 30 {
			if x, l = x.Tick(); len(l) != 0 || x.State() != 3 {
				t.Fatal(l)
			}
		}
	}
}

// P29.2: what is no response to it is nothing.
func TestNothing(t *testing.T) {
	right := response(1, "ann", "secret")
	short := chaps.Lay(2, 1, right.Data[1:49], "ann")
	long := chaps.Lay(2, 1, append(bytes.Clone(right.Data[1:50]), 0), "ann")
	eight, end := response(1, "ann", "secret"), response(1, "ann", "secret")
	eight.Data[1+16+3] = 1
	end.Data[49] = 1
	x := asked(t)
	proved, _ := x.Take(right)
	for _, c := range []api.Control{short, long, eight, end, pack(2, 1), pack(2, 1, 49, 1), {Code: 2, ID: 1, Data: right.Data[:49]}} {
		if y, l := x.Take(c); len(l) != 0 || !reflect.DeepEqual(x, y) {
			t.Errorf("%v: %v", c, l)
		}
	}
	for _, c := range []api.Control{response(0, "ann", "secret"), response(2, "ann", "secret"), {Code: 1, ID: 1, Data: right.Data}, {Code: 3, ID: 1, Data: right.Data}, {Code: 4, ID: 1, Data: right.Data}, {Code: 0, ID: 1, Data: right.Data}} {
		for _, y := range []chaps.Asker{x, proved} {
			if z, l := y.Take(c); len(l) != 0 || !reflect.DeepEqual(y, z) {
				t.Errorf("%v: %v", c, l)
			}
		}
	}
}

// P29.2: another challenge is another proof.
func TestAnotherChallenge(t *testing.T) {
	x, _ := chaps.New("srv", users()).Start([16]byte{1})
	if x, _ = x.Take(response(1, "ann", "secret")); x.State() != 3 {
		t.Error(x.State())
	}
	if x, _ := (chaps.Asker{}).Start([16]byte{}); x.State() != 1 {
		t.Error("the zero one", x.State())
	}
}

// P29.2, R4: no call turns the one that it is called of, and nothing is shared.
func TestNothingIsShared(t *testing.T) {
	l := users()
	x := chaps.New("srv", l)
	clear(l)
	x, _ = x.Start(challenge())
	again := asked(t)
	x.Tick()
	x.Take(response(1, "eve", ""))
	c := response(1, "ann", "secret")
	y, out := x.Take(c)
	if !reflect.DeepEqual(x, again) || !reflect.DeepEqual(c, response(1, "ann", "secret")) {
		t.Error("turned")
	}
	clear(out[0].Data)
	want, _ := success("ann", "secret")
	if _, out := y.Take(c); !same(out, want) {
		t.Error("shared", out)
	}
}
