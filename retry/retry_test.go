package retry_test

import (
	"math"
	"testing"

	"euphroe/retry"
)

// some are restarts, those that may not be among them.
func some() []retry.Retry {
	var l []retry.Retry
	for _, count := range []int{math.MinInt, -1, 0, 1, 2, 5, 9, 10, 11, math.MaxInt} {
		for _, left := range []int{math.MinInt, -1, 0, 1, 2, 3, 4, math.MaxInt} {
			l = append(l, retry.Retry{Count: count, Left: left})
		}
	}
	return l
}

// P24.1: what may be, and what is on, and may be sent again.
func TestMayOnMore(t *testing.T) {
	if retry.Configure != 10 || retry.Terminate != 2 || retry.Restart != 3 {
		t.Error("other numbers")
	}
	for _, r := range some() {
		if r.May() != (r.Count >= 0 && r.Count <= 10 && r.Left >= 0 && r.Left <= 3) {
			t.Errorf("May of %v: %v", r, r.May())
		}
		if r.On() != (r.Left > 0) {
			t.Errorf("On of %v: %v", r, r.On())
		}
		if r.More() != (r.Count > 0) {
			t.Errorf("More of %v: %v", r, r.More())
		}
	}
}

// P24.1: what is turned, and what stays.
func TestInitZeroSentStop(t *testing.T) {
	for _, r := range some() {
		if got := r.Init(true); got != (retry.Retry{Count: 2, Left: r.Left}) {
			t.Errorf("Init of %v: %v", r, got)
		}
		if got := r.Init(false); got != (retry.Retry{Count: 10, Left: r.Left}) {
			t.Errorf("Init of %v: %v", r, got)
		}
		if got := r.Zero(); got != (retry.Retry{Count: 0, Left: 3}) {
			t.Errorf("Zero of %v: %v", r, got)
		}
		less := 0
		if r.Count > 0 {
			less = r.Count - 1
		}
		if got := r.Sent(); got != (retry.Retry{Count: less, Left: 3}) {
			t.Errorf("Sent of %v: %v", r, got)
		}
		if got := r.Stop(); got != (retry.Retry{Count: r.Count}) {
			t.Errorf("Stop of %v: %v", r, got)
		}
	}
}

// P24.2: of one that is off as it is; else a tick less, and whether none is left.
func TestTick(t *testing.T) {
	for _, r := range some() {
		want, expires := r, r.Left == 1
		if r.Left > 0 {
			want.Left--
		}
		if got, expired := r.Tick(); got != want || expired != expires {
			t.Errorf("Tick of %v: %v, %v", r, got, expired)
		}
	}
}

// P24.2: three ticks each time that it is sent.
func TestLongest(t *testing.T) {
	for _, c := range [][2]int{{math.MinInt, 0}, {-1, 0}, {0, 0}, {1, 3}, {2, 6}, {3, 9}, {5, 15}, {9, 27}, {10, 30}, {11, 30}, {1000, 30}, {math.MaxInt, 30}} {
		if got := retry.Longest(c[0]); got != c[1] {
			t.Errorf("Longest(%d): %d, not %d", c[0], got, c[1])
		}
	}
}

// P24.3: what is sent expires behind Restart ticks, just once.
func TestSentExpiresOnce(t *testing.T) {
	for _, r := range some() {
		r = r.Sent()
		for tick := 1; tick <= 10; tick++ {
			expired := false
			if r, expired = r.Tick(); expired != (tick == 3) {
				t.Errorf("%v: at the tick %d: %v", r, tick, expired)
			}
		}
	}
}
