package fsm_test

import (
	"math"
	"slices"
	"strconv"
	"strings"
	"testing"

	"euphroe/api"
	"euphroe/fsm"
)

// table is the document's.
const table = `
| Up | 2 | irc scr 6 | - | - | - | - | - | - | - | - |
| Down | - | - | 0 | tls 1 | 0 | 1 | 1 | 1 | 1 | tld 1 |
| Open | tls 1 | 1 | irc scr 6 | 3 | 5 | 5 | 6 | 7 | 8 | 9 |
| Close | 0 | tlf 0 | 2 | 2 | 4 | 4 | irc str 4 | irc str 4 | irc str 4 | tld irc str 4 |
| TO+ | - | - | - | - | str 4 | str 5 | scr 6 | scr 6 | scr 8 | - |
| TO- | - | - | - | - | tlf 2 | tlf 3 | tlf 3 | tlf 3 | tlf 3 | - |
| RCR+ | - | - | sta 2 | irc scr sca 8 | 4 | 5 | sca 8 | sca tlu 9 | sca 8 | tld scr sca 8 |
| RCR- | - | - | sta 2 | irc scr scn 6 | 4 | 5 | scn 6 | scn 7 | scn 6 | tld scr scn 6 |
| RCA | - | - | sta 2 | sta 3 | 4 | 5 | irc 7 | scr 6 | irc tlu 9 | tld scr 6 |
| RCN | - | - | sta 2 | sta 3 | 4 | 5 | irc scr 6 | scr 6 | irc scr 8 | tld scr 6 |
| RTR | - | - | sta 2 | sta 3 | sta 4 | sta 5 | sta 6 | sta 6 | sta 6 | tld zrc sta 5 |
| RTA | - | - | 2 | 3 | tlf 2 | tlf 3 | 6 | 6 | 8 | tld scr 6 |
| RUC | - | - | scj 2 | scj 3 | scj 4 | scj 5 | scj 6 | scj 7 | scj 8 | scj 9 |
| RXJ+ | - | - | 2 | 3 | 4 | 5 | 6 | 6 | 8 | 9 |
| RXJ- | - | - | tlf 2 | tlf 3 | tlf 2 | tlf 3 | tlf 3 | tlf 3 | tlf 3 | tld irc str 5 |
| RXR | - | - | 2 | 3 | 4 | 5 | 6 | 7 | 8 | ser 9 |
`

// cells are the table's, by events and states: the last word is the next state, the others are what is done.
func cells() [][]string {
	var rows [][]string
	for _, line := range strings.Split(strings.TrimSpace(table), "\n") {
		l := strings.Split(strings.Trim(line, "| "), "|")
		for i := range l {
			l[i] = strings.TrimSpace(l[i])
		}
		rows = append(rows, l[1:])
	}
	return rows
}

// wants is what the table says.
func wants(s fsm.State, e fsm.Event) (fsm.State, []fsm.Action, api.Errno) {
	names := []string{"", "tlu", "tld", "tls", "tlf", "irc", "zrc", "scr", "sca", "scn", "str", "sta", "scj", "ser"}
	cell := cells()[e][s]
	if cell == "-" {
		return 0, nil, api.ErrState
	}
	words := strings.Fields(cell)
	n, _ := strconv.Atoi(words[len(words)-1])
	var l []fsm.Action
	for _, w := range words[:len(words)-1] {
		l = append(l, fsm.Action(slices.Index(names, w)))
	}
	return fsm.State(n), l, api.OK
}

// The numbers of states, events and actions.
func TestNumbers(t *testing.T) {
	states := []fsm.State{fsm.Initial, fsm.Starting, fsm.Closed, fsm.Stopped, fsm.Closing, fsm.Stopping, fsm.ReqSent, fsm.AckRcvd, fsm.AckSent, fsm.Opened}
	events := []fsm.Event{fsm.Up, fsm.Down, fsm.Open, fsm.Close, fsm.Expired, fsm.GaveUp, fsm.GoodReq, fsm.BadReq, fsm.Ack, fsm.Nak, fsm.TermReq, fsm.TermAck, fsm.Unknown, fsm.Reject, fsm.Fatal, fsm.Echo}
	actions := []fsm.Action{fsm.LayerUp, fsm.LayerDown, fsm.LayerStarted, fsm.LayerFinished, fsm.InitCount, fsm.ZeroCount, fsm.SendReq, fsm.SendAck, fsm.SendNak, fsm.SendTerm, fsm.SendTermAck, fsm.SendReject, fsm.SendEcho}
	for i, s := range states {
		if int(s) != i {
			t.Error("state", i)
		}
	}
	for i, e := range events {
		if int(e) != i {
			t.Error("event", i)
		}
	}
	for i, a := range actions {
		if int(a) != i+1 {
			t.Error("action", i+1)
		}
	}
}

// P23.1: the table, cell by cell.
func TestNext(t *testing.T) {
	for s := fsm.Initial; s <= fsm.Opened; s++ {
		for e := fsm.Up; e <= fsm.Echo; e++ {
			next, l, err := fsm.Next(s, e)
			n, w, want := wants(s, e)
			if next != n || !slices.Equal(l, w) || err != want {
				t.Errorf("Next(%d, %d): %d, %v, %d, not %d, %v, %d", s, e, next, l, err, n, w, want)
			}
		}
	}
}

// P23.1: what is no state, or no event.
func TestNextRefuses(t *testing.T) {
	for _, s := range []fsm.State{math.MinInt, -1, 10, 11, math.MaxInt} {
		for e := fsm.Event(-2); e < 20; e++ {
			if next, l, err := fsm.Next(s, e); next != 0 || len(l) != 0 || err != api.ErrArg {
				t.Errorf("Next(%d, %d): %d, %v, %d", s, e, next, l, err)
			}
		}
	}
	for _, e := range []fsm.Event{math.MinInt, -1, 16, 17, math.MaxInt} {
		for s := fsm.Initial; s <= fsm.Opened; s++ {
			if next, l, err := fsm.Next(s, e); next != 0 || len(l) != 0 || err != api.ErrArg {
				t.Errorf("Next(%d, %d): %d, %v, %d", s, e, next, l, err)
			}
		}
	}
}

// P23.2: event by event, up to the first one that is refused.
func TestRun(t *testing.T) {
	for _, c := range []struct {
		s    fsm.State
		l    []fsm.Event
		next fsm.State
		done []fsm.Action
		many int
	}{
		{fsm.Initial, nil, fsm.Initial, nil, 0},
		{fsm.Opened, nil, fsm.Opened, nil, 0},
		{fsm.Initial, []fsm.Event{fsm.Open, fsm.Up, fsm.Ack, fsm.GoodReq}, fsm.Opened, []fsm.Action{fsm.LayerStarted, fsm.InitCount, fsm.SendReq, fsm.InitCount, fsm.SendAck, fsm.LayerUp}, 4},
		{fsm.Initial, []fsm.Event{fsm.Open, fsm.Up, fsm.Up, fsm.Down}, fsm.ReqSent, []fsm.Action{fsm.LayerStarted, fsm.InitCount, fsm.SendReq}, 2},
		{fsm.Opened, []fsm.Event{fsm.TermReq, fsm.GaveUp, 16, fsm.Down}, fsm.Stopped, []fsm.Action{fsm.LayerDown, fsm.ZeroCount, fsm.SendTermAck, fsm.LayerFinished}, 2},
		{fsm.Closed, []fsm.Event{-1}, fsm.Closed, nil, 0},
		{fsm.Starting, []fsm.Event{fsm.Echo, fsm.Up}, fsm.Starting, nil, 0},
		{-1, []fsm.Event{fsm.Up}, 0, nil, 0}, {10, nil, 0, nil, 0}, {math.MaxInt, []fsm.Event{fsm.Up}, 0, nil, 0},
	} {
		if next, done, many := fsm.Run(c.s, c.l); next != c.next || !slices.Equal(done, c.done) || many != c.many {
			t.Errorf("Run(%d, %v): %d, %v, %d", c.s, c.l, next, done, many)
		}
	}
}

// P23.2: where TO+ may be, and the names.
func TestTimedAndName(t *testing.T) {
	names := []string{"Initial", "Starting", "Closed", "Stopped", "Closing", "Stopping", "ReqSent", "AckRcvd", "AckSent", "Opened"}
	for s := fsm.State(-3); s < 14; s++ {
		if fsm.Timed(s) != (s >= 4 && s <= 8) {
			t.Error("Timed", s)
		}
		name := ""
		if s >= 0 && s <= 9 {
			name = names[s]
		}
		if fsm.Name(s) != name {
			t.Error("Name", s, fsm.Name(s))
		}
	}
	if fsm.Timed(math.MinInt) || fsm.Name(math.MaxInt) != "" {
		t.Error("of none")
	}
}

// P23.2: each way of events, none too, as the table has it.
func TestReaches(t *testing.T) {
	var leads [10][10]bool
	for s := range leads {
		leads[s][s] = true
		for e := fsm.Up; e <= fsm.Echo; e++ {
			if n, _, err := wants(fsm.State(s), e); err == api.OK {
				leads[s][n] = true
			}
		}
	}
	for k := range leads {
		for i := range leads {
			for j := range leads {
				leads[i][j] = leads[i][j] || leads[i][k] && leads[k][j]
			}
		}
	}
	for from := fsm.State(-2); from < 12; from++ {
		for to := fsm.State(-2); to < 12; to++ {
			want := from >= 0 && from < 10 && to >= 0 && to < 10 && leads[from][to]
			if fsm.Reaches(from, to) != want {
				t.Errorf("Reaches(%d, %d): %v", from, to, !want)
			}
		}
	}
	if fsm.Reaches(math.MinInt, math.MinInt) || fsm.Reaches(99, 99) {
		t.Error("of none")
	}
}

// P23.3, P23.4: where layers go up and down, and where requests are sent.
func TestWhatFollows(t *testing.T) {
	for s := fsm.Initial; s <= fsm.Opened; s++ {
		for e := fsm.Up; e <= fsm.Echo; e++ {
			next, l, err := fsm.Next(s, e)
			if err != api.OK {
				continue
			}
			if slices.Contains(l, fsm.LayerUp) != (s != fsm.Opened && next == fsm.Opened) || slices.Contains(l, fsm.LayerDown) != (s == fsm.Opened && next != fsm.Opened) {
				t.Errorf("%d, %d: %v", s, e, l)
			}
			if slices.Contains(l, fsm.SendReq) && next != fsm.ReqSent && next != fsm.AckSent {
				t.Errorf("%d, %d: %d, %v", s, e, next, l)
			}
		}
	}
}

// R7 of the language: answers are memory of their own.
func TestNothingIsShared(t *testing.T) {
	_, l, _ := fsm.Next(fsm.ReqSent, fsm.Close)
	clear(l)
	if _, l, _ := fsm.Next(fsm.ReqSent, fsm.Close); !slices.Equal(l, []fsm.Action{fsm.InitCount, fsm.SendTerm}) {
		t.Error(l)
	}
}
