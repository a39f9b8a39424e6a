package world

import (
	"euphroe/api"
	"euphroe/chans"
	"euphroe/httpq"
	"euphroe/ipcp"
	"euphroe/link"
	"euphroe/sclient"
	"euphroe/table"
)

// note puts notes behind.
func note(all *[]Note, l ...Note) { *all = append(*all, l...) }

// doer lets events happen, and gathers what is noted.
type doer struct {
	*World
	notes []Note
}

// do lets an event happen.
func (d *doer) do(x Event) {
	switch x.Kind {
	case meet, lure, knock:
		d.comes(x)
	case rise:
		d.rises(x)
	case fall:
		d.falls(x)
	case tick:
		d.ticks()
	case inject:
		d.injects(x)
	case relay:
		d.relays(x)
	case send:
		d.sends(x)
	case route:
		d.routes(x)
	case closeClient:
		if l, _ := d.at(x.Chan); l.client != nil {
			d.clientDid(x.Chan, l.client.Close())
		}
	case closeServer:
		if l, _ := d.at(x.Chan); l.server {
			d.serverDid(d.server.Close(x.Chan))
		}
	}
}

// clientDid is behind what a channel's client did.
func (d *doer) clientDid(ch int, o sclient.Out) {
	d.tells(true, ch, o.Bound, o.Data, o.Closed)
	d.lines[ch].ch.Put(chans.Up, o.Bytes)
}

// serverDid is behind what the server did on a channel.
func (d *doer) serverDid(o table.Out, e api.Errno) {
	if e != api.OK && e != api.ErrFull {
		return
	}
	d.tells(false, o.Chan, o.Bound, o.Data, o.Closed)
	d.lines[o.Chan].ch.Put(chans.Down, o.Bytes)
}

// tells notes what was done, in the order in which it can happen: none is delivered ahead of being bound, or behind the end.
func (d *doer) tells(client bool, ch int, isBound bool, l [][]byte, isClosed bool) {
	if isBound {
		note(&d.notes, Note{Client: client, Chan: ch, What: bound})
	}
	for _, b := range l {
		note(&d.notes, Note{Client: client, Chan: ch, What: data, Data: b})
	}
	if isClosed {
		note(&d.notes, Note{Client: client, Chan: ch, What: closed})
	}
}

// comes lets a channel come, with who is at its ends.
func (d *doer) comes(x Event) {
	ch := len(d.lines)
	if ch == mostChans {
		return
	}
	l := line{ch: chans.New(x.Hash), server: x.Kind != lure}
	if x.Kind != knock {
		l.client = client(x)
	}
	d.lines = append(d.lines, l)
	if l.client != nil {
		d.clientDid(ch, l.client.Start())
	}
	if l.server {
		d.serverDid(d.server.Open(ch, x.Hash, x.Draw))
	}
}

// client is the one that an event tells of.
func client(x Event) *sclient.Client {
	return sclient.New(sclient.Config{
		Request: httpq.Request{Host: host},
		Hash:    x.Hash,
		Link:    link.Config{Name: x.Name, Password: x.Password, Magic: x.Magic, Random: x.Peer},
	})
}

// rises lets bytes come to the server: they are taken also where its session is closed.
func (d *doer) rises(x Event) {
	l, _ := d.at(x.Chan)
	if !l.server {
		return
	}
	if b, e := l.ch.Take(chans.Up, x.N); e == api.OK {
		d.serverDid(d.server.Bytes(x.Chan, b))
	}
}

// falls lets bytes come to a client.
func (d *doer) falls(x Event) {
	l, _ := d.at(x.Chan)
	if l.client == nil {
		return
	}
	if b, e := l.ch.Take(chans.Down, x.N); e == api.OK {
		d.clientDid(x.Chan, l.client.Bytes(b))
	}
}

// ticks is a tick of all.
func (d *doer) ticks() {
	for _, o := range d.server.Tick() {
		d.serverDid(o, api.OK)
	}
	for ch, l := range d.lines {
		if l.client != nil {
			d.clientDid(ch, l.client.Tick())
		}
	}
}

// injects puts bytes into a way at whose one end nobody is.
func (d *doer) injects(x Event) {
	l, there := d.at(x.Chan)
	if there && (x.Way == chans.Up && l.client == nil || x.Way == chans.Down && !l.server) {
		l.ch.Put(x.Way, x.Data)
	}
}

// relays puts bytes of a channel with nobody below into one with nobody above, or the other way round.
func (d *doer) relays(x Event) {
	lower, is := d.at(x.Chan)
	upper, there := d.at(x.Other)
	switch {
	case !is || !there || lower.server || upper.client != nil:
	case x.Way == chans.Down:
		chans.Relay(upper.ch, chans.Down, lower.ch, chans.Down, x.N)
	default:
		chans.Relay(lower.ch, chans.Up, upper.ch, chans.Up, x.N)
	}
}

// datagram are a datagram's bytes: none of what is too big.
func datagram(src, dst api.Addr, b []byte) []byte {
	laid, _ := ipcp.Lay(ipcp.Datagram{TTL: ttl, Proto: proto, Src: src, Dst: dst, Data: b})
	return laid
}

// sends lets a client send a datagram.
func (d *doer) sends(x Event) {
	l, _ := d.at(x.Chan)
	if l.client == nil {
		return
	}
	out, _ := l.client.Send(datagram(l.client.Addr(), x.Addr, x.Data))
	d.clientDid(x.Chan, out)
}

// routes lets the server route a datagram to the address of a channel.
func (d *doer) routes(x Event) {
	if dst, is := d.server.Addr(x.Chan); is {
		d.serverDid(d.server.Route(datagram(x.Addr, dst, x.Data)))
	}
}
