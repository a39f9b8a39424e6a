package sclient

import (
	"euphroe/api"
	"euphroe/attr"
	"euphroe/bind"
	"euphroe/httpp"
	"euphroe/link"
	"euphroe/packet"
	"euphroe/reframe"
)

const (
	protocol = 1 // the one that is asked for
	aborted  = 1 // the code of an abort
)

// doer gathers what a client does.
type doer struct {
	*Client
	out Out
}

// says puts a packet behind what is said.
func (d *doer) says(p api.Packet) {
	b, e := packet.Lay(p)
	if e == api.OK {
		d.out.Bytes = append(d.out.Bytes, b...)
	}
}

// enters comes to a state: none from aborting on has a link or a nonce.
func (d *doer) enters(state, left int) {
	d.state, d.left = state, left
	if state >= aborting {
		d.link = link.New(link.Config{})
		d.nonce = [32]byte{}
	}
}

// aborts says an Abort, and waits for the other one's.
func (d *doer) aborts() {
	d.says(packet.Of(packet.Abort, attr.OfStatus(attr.Status{Code: aborted})))
	d.enters(aborting, Last)
}

// leaves says a Disconnect, and waits for what acknowledges it.
func (d *doer) leaves() {
	d.says(packet.Of(packet.Disconnect))
	d.enters(leaving, Leave)
}

// closes holds nothing more.
func (d *doer) closes() {
	d.enters(closed, 0)
	d.head, d.stream = nil, reframe.New()
	d.out.Closed = true
}

// end is how it ends of itself in the state that it has.
func (d *doer) end() func() {
	if d.within(asking, connected) {
		return d.aborts
	}
	return d.closes
}

// hears takes bytes of the response.
func (d *doer) hears(b []byte) {
	d.head = append(d.head, b...)
	status, size, e := httpp.Parse(d.head)
	switch {
	case e == api.ErrEnd:
		return
	case e != api.OK || !httpp.Fine(status):
		d.closes()
		return
	}
	rest := d.head[size:]
	d.head = nil
	d.enters(asking, Wait)
	d.says(packet.Of(packet.ConnectReq, attr.Proto(protocol)))
	d.reads(rest)
}

// reads takes bytes of packets.
func (d *doer) reads(b []byte) {
	if d.broken {
		return
	}
	l, e := d.stream.Write(b)
	d.broken = e != api.OK
	for _, p := range l {
		if d.state != closed {
			d.takes(p)
		}
	}
	if d.broken && d.state != closed {
		d.end()()
	}
}

// takes is behind a packet that came.
func (d *doer) takes(p api.Packet) {
	switch {
	case d.state < aborting:
		d.talks(p)
	case p.Control && p.Type == packet.Abort:
		d.closes()
	case d.state == leaving && p.Control && p.Type == packet.DiscAck:
		d.closes()
	case d.state == leaving && p.Control && p.Type == packet.Disconnect:
		d.says(packet.Of(packet.DiscAck))
	}
}

// talks is behind a packet that came, as nothing ends.
func (d *doer) talks(p api.Packet) {
	if packet.Check(p) != api.OK {
		d.aborts()
		return
	}
	if d.state == connected {
		d.left, d.echo = Hello, false
	}
	if !p.Control {
		if d.within(negotiating, connected) {
			d.linked(d.link.Take(p.Data))
		}
		return
	}
	switch p.Type {
	case packet.Abort:
		d.says(packet.Of(packet.Abort))
		d.closes()
	case packet.Disconnect:
		d.says(packet.Of(packet.DiscAck))
		d.closes()
	case packet.EchoReq:
		d.says(packet.Of(packet.EchoResp))
	case packet.EchoResp:
	case packet.ConnectAck:
		d.asked(p)
	default:
		d.aborts()
	}
}

// asked is behind a ConnectAck.
func (d *doer) asked(p api.Packet) {
	nonce, e := bind.Asked(p)
	if d.state != asking || e != api.OK {
		d.aborts()
		return
	}
	d.nonce = nonce
	d.enters(negotiating, Wait)
	d.linked(d.link.Start())
}

// linked is behind what its link did.
func (d *doer) linked(l link.Link, out link.Out) {
	d.link = l
	for _, f := range out.Frames {
		d.says(packet.OfData(f))
	}
	if d.state == connected {
		d.out.Data = append(d.out.Data, out.Data...)
	}
	if out.Proved && d.state == negotiating {
		d.says(bind.Connected(l.Key(), d.nonce, d.hash))
		d.enters(connected, Hello)
		d.out.Bound = true
	}
	if out.Over && d.within(negotiating, connected) {
		d.leaves()
	}
}

// expires is a tick of its timer.
func (d *doer) expires() {
	d.left--
	switch {
	case d.left > 0:
	case d.state == connected && !d.echo:
		d.says(packet.Of(packet.EchoReq))
		d.left, d.echo = Hello, true
	default:
		d.end()()
	}
}
