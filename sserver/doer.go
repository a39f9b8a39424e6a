package sserver

import (
	"euphroe/api"
	"euphroe/attr"
	"euphroe/bind"
	"euphroe/httpp"
	"euphroe/httpq"
	"euphroe/link"
	"euphroe/packet"
	"euphroe/reframe"
)

// The codes by which it refuses.
const (
	brokenStream = iota + 1
	wrongPacket
	tooManyNaks
	noKey
	notBound
	unasked
	tooLate
)

const (
	protocol = 1 // the one that is asked for
	noOther  = 5 // the status of another one
)

// doer gathers what a session does.
type doer struct {
	*Session
	out Out
}

// says puts a packet behind what is said.
func (d *doer) says(p api.Packet) {
	b, e := packet.Lay(p)
	if e == api.OK {
		d.out.Bytes = append(d.out.Bytes, b...)
	}
}

// answers says a response.
func (d *doer) answers(status int) {
	b, _ := httpp.Lay(status)
	d.out.Bytes = append(d.out.Bytes, b...)
}

// enters comes to a state: none from aborting on has a link.
func (d *doer) enters(state, left int) {
	d.state, d.left = state, left
	if state >= aborting {
		d.link = link.New(link.Config{})
	}
}

// refuses says an Abort with a code, and waits for the other one's.
func (d *doer) refuses(code uint32) {
	d.says(packet.Of(packet.Abort, attr.OfStatus(attr.Status{Code: code})))
	d.enters(aborting, Last)
}

// leaves says a Disconnect, and waits for what acknowledges it.
func (d *doer) leaves() {
	d.says(packet.Of(packet.Disconnect))
	d.enters(leaving, Leave)
}

// closes holds nothing more.
func (d *doer) closes() {
	d.enters(closed, 0)
	d.head, d.stream = nil, reframe.New()
	d.out.Closed = true
}

// ends ends it of itself: as it talks it refuses with a code.
func (d *doer) ends(code uint32) {
	if d.within(answered, connected) {
		d.refuses(code)
		return
	}
	d.closes()
}

// hears takes bytes of the request.
func (d *doer) hears(b []byte) {
	d.head = append(d.head, b...)
	_, size, e := httpq.Parse(d.head)
	if e == api.ErrEnd {
		return
	}
	d.answers(httpq.Status(e))
	if e != api.OK {
		d.closes()
		return
	}
	rest := d.head[size:]
	d.head = nil
	d.enters(answered, Wait)
	d.reads(rest)
}

// reads takes bytes of packets.
func (d *doer) reads(b []byte) {
	if d.broken {
		return
	}
	l, e := d.stream.Write(b)
	d.broken = e != api.OK
	for _, p := range l {
		if d.state != closed {
			d.takes(p)
		}
	}
	if d.broken && d.state != closed {
		d.ends(brokenStream)
	}
}

// takes is behind a packet that came.
func (d *doer) takes(p api.Packet) {
	switch {
	case d.state < aborting:
		d.talks(p)
	case p.Control && p.Type == packet.Abort:
		d.closes()
	case d.state == leaving && p.Control && p.Type == packet.DiscAck:
		d.closes()
	case d.state == leaving && p.Control && p.Type == packet.Disconnect:
		d.says(packet.Of(packet.DiscAck))
	}
}

// talks is behind a packet that came, as nothing ends.
func (d *doer) talks(p api.Packet) {
	if packet.Check(p) != api.OK {
		d.refuses(wrongPacket)
		return
	}
	if d.state == connected {
		d.left, d.echo = Hello, false
	}
	if !p.Control {
		if d.within(negotiating, connected) {
			d.linked(d.link.Take(p.Data))
		}
		return
	}
	switch {
	case p.Type == packet.Abort:
		d.says(packet.Of(packet.Abort))
		d.closes()
	case p.Type == packet.Disconnect:
		d.says(packet.Of(packet.DiscAck))
		d.closes()
	case p.Type == packet.EchoReq:
		d.says(packet.Of(packet.EchoResp))
	case p.Type == packet.EchoResp:
	case p.Type == packet.ConnectReq && d.state == answered:
		d.asked(p)
	case p.Type == packet.Connected && d.state == negotiating:
		d.binds(p)
	default:
		d.refuses(unasked)
	}
}

// asked is behind a ConnectReq.
func (d *doer) asked(p api.Packet) {
	n, _ := attr.ToProto(p.Attrs[0])
	if n == protocol {
		d.says(bind.Ask(d.nonce))
		d.enters(negotiating, Wait)
		d.linked(d.link.Start())
		return
	}
	d.says(packet.Of(packet.ConnectNak, attr.OfStatus(attr.Status{About: attr.KProto, Code: noOther})))
	d.naks++
	if d.naks == MaxNak {
		d.refuses(tooManyNaks)
	}
}

// binds is behind a Connected.
func (d *doer) binds(p api.Packet) {
	key := d.link.Key()
	switch {
	case key == [32]byte{}:
		d.refuses(noKey)
	case bind.Check(p, key, d.nonce, d.hash) != api.OK:
		d.refuses(notBound)
	default:
		d.enters(connected, Hello)
		d.out.Bound = true
	}
}

// linked is behind what its link did.
func (d *doer) linked(l link.Link, out link.Out) {
	d.link = l
	for _, f := range out.Frames {
		d.says(packet.OfData(f))
	}
	if d.state == connected {
		d.out.Data = append(d.out.Data, out.Data...)
	}
	if out.Over && d.within(negotiating, connected) {
		d.leaves()
	}
}

// expires is a tick of its timer.
func (d *doer) expires() {
	d.left--
	switch {
	case d.left > 0:
	case d.state == connected && !d.echo:
		d.says(packet.Of(packet.EchoReq))
		d.left, d.echo = Hello, true
	default:
		d.ends(tooLate)
	}
}
