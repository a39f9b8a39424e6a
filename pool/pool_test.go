package pool_test

import (
	"math"
	"math/rand"
	"slices"
	"testing"

	"euphroe/api"
	"euphroe/pool"
)

// of is a pool.
func of(t *testing.T, first api.Addr, many int) pool.Pool {
	p, e := pool.New(first, many)
	if e != api.OK {
		t.Fatal(e)
	}
	return p
}

// P31.1: how many there may be, and where they may begin.
func TestNew(t *testing.T) {
	for _, c := range []struct {
		first api.Addr
		many  int
		want  api.Errno
	}{
		{1, 0, api.OK}, {1, 1, api.OK}, {1, 256, api.OK}, {math.MaxUint32, 1, api.OK}, {math.MaxUint32, 0, api.OK}, {math.MaxUint32 - 255, 256, api.OK}, {0x0A000000, 100, api.OK},
		{0, 0, api.ErrArg}, {0, 5, api.ErrArg}, {1, -1, api.ErrArg}, {1, 257, api.ErrArg}, {1, math.MinInt, api.ErrArg}, {1, math.MaxInt, api.ErrArg}, {math.MaxUint32, 2, api.ErrArg}, {math.MaxUint32 - 255, 257, api.ErrArg}, {math.MaxUint32 - 254, 256, api.ErrArg}, {math.MaxUint32, -1, api.ErrArg},
	} {
		p, e := pool.New(c.first, c.many)
		free := c.many
		if e != api.OK {
			free = 0
		}
		if e != c.want || p.Free() != free || len(p.Held()) != 0 {
			t.Errorf("New(%d, %d): %d, %d free", c.first, c.many, e, p.Free())
		}
	}
}

// P31.1: the address that it has, else the first one that is free; and none.
func TestGive(t *testing.T) {
	p := of(t, 100, 3)
	for i, holder := range []int{7, -7, 0} {
		var a api.Addr
		var e api.Errno
		if p, a, e = p.Give(holder); a != api.Addr(100+i) || e != api.OK {
			t.Fatal(a, e)
		}
		if q, a, e := p.Give(holder); a != api.Addr(100+i) || e != api.OK || q.Free() != 2-i {
			t.Fatal("again", a, e)
		}
	}
	if q, a, e := p.Give(9); a != 0 || e != api.ErrFull || q.Free() != 0 || !slices.Equal(q.Held(), []api.Addr{100, 101, 102}) {
		t.Error(a, e)
	}
	if _, a, e := p.Give(-7); a != 101 || e != api.OK {
		t.Error("what it has", a, e)
	}
	p, e := p.Take(-7)
	if e != api.OK || p.Free() != 1 || !slices.Equal(p.Held(), []api.Addr{100, 102}) {
		t.Error(e, p.Held())
	}
	p, _ = p.Take(7)
	if p, a, e := p.Give(9); a != 100 || e != api.OK || p.Free() != 1 {
		t.Error("the first one that is free", a, e)
	}
	if _, a, e := of(t, 5, 0).Give(1); a != 0 || e != api.ErrFull {
		t.Error("of none", a, e)
	}
}

// P31.1: of who has none.
func TestTakeRefuses(t *testing.T) {
	p, _, _ := of(t, 100, 3).Give(5)
	for _, holder := range []int{0, -5, 6, math.MinInt, math.MaxInt} {
		if q, e := p.Take(holder); e != api.ErrNone || q.Free() != 2 || !slices.Equal(q.Held(), []api.Addr{100}) {
			t.Errorf("Take(%d): %d", holder, e)
		}
	}
	p, _ = p.Take(5)
	if _, e := p.Take(5); e != api.ErrNone {
		t.Error("twice", e)
	}
}

// P31.2: whose is whose.
func TestOfAndHolder(t *testing.T) {
	p, _, _ := of(t, 100, 3).Give(0)
	p, _, _ = p.Give(math.MinInt)
	for holder, want := range map[int]api.Addr{0: 100, math.MinInt: 101} {
		if a, is := p.Of(holder); a != want || !is {
			t.Errorf("Of(%d): %d, %v", holder, a, is)
		}
		if h, is := p.Holder(want); h != holder || !is {
			t.Errorf("Holder(%d): %d, %v", want, h, is)
		}
	}
	for _, holder := range []int{1, -1, 102} {
		if a, is := p.Of(holder); a != 0 || is {
			t.Errorf("Of(%d): %d, %v", holder, a, is)
		}
	}
	for _, a := range []api.Addr{0, 99, 102, 103, math.MaxUint32} {
		if h, is := p.Holder(a); h != 0 || is {
			t.Errorf("Holder(%d): %d, %v", a, h, is)
		}
	}
}

// P31.2: the zero one has no addresses.
func TestZero(t *testing.T) {
	var p pool.Pool
	q, a, e := p.Give(1)
	_, none := p.Take(0)
	o, is := p.Of(0)
	h, somebody := p.Holder(0)
	if a != 0 || e != api.ErrFull || q.Free() != 0 || none != api.ErrNone || o != 0 || is || h != 0 || somebody || p.Free() != 0 || len(p.Held()) != 0 {
		t.Error(a, e, none, o, is, h, somebody)
	}
}

// P31.2: no call turns the pool that it is called of.
func TestNothingIsTurned(t *testing.T) {
	p := of(t, 100, 3)
	q, _, _ := p.Give(1)
	r, _, _ := q.Give(2)
	s, _ := r.Take(1)
	r.Held()[0] = 7
	if p.Free() != 3 || q.Free() != 2 || r.Free() != 1 || s.Free() != 2 || !slices.Equal(r.Held(), []api.Addr{100, 101}) || !slices.Equal(s.Held(), []api.Addr{101}) {
		t.Error(p.Held(), q.Held(), r.Held(), s.Held())
	}
	if _, is := q.Of(2); is {
		t.Error("shared")
	}
}

// P31.3: no two holders have one address; what is free, and what is held, are all.
func TestMany(t *testing.T) {
	r := rand.New(rand.NewSource(31))
	p := of(t, math.MaxUint32-19, 20)
	has := map[int]api.Addr{}
	for range 5000 {
		holder := r.Intn(30) - 5
		if r.Intn(2) == 0 {
			q, a, e := p.Give(holder)
			if old, is := has[holder]; is && (a != old || e != api.OK) || !is && len(has) < 20 && e != api.OK || !is && len(has) == 20 && e != api.ErrFull {
				t.Fatal(holder, a, e)
			}
			if e == api.OK {
				has[holder] = a
			}
			p = q
		} else {
			q, e := p.Take(holder)
			if _, is := has[holder]; is != (e == api.OK) {
				t.Fatal(holder, e)
			}
			delete(has, holder)
			p = q
		}
		var want []api.Addr
		for h, a := range has {
			want = append(want, a)
			if got, is := p.Of(h); got != a || !is {
				t.Fatal(h, got)
			}
		}
		slices.Sort(want)
		if !slices.Equal(p.Held(), want) || len(slices.Compact(want)) != len(has) || p.Free() != 20-len(has) {
			t.Fatal(p.Held(), want)
		}
	}
}
