package mppe_test

import (
	"bytes"
	"crypto/sha1"
	"encoding/hex"
	"testing"

	"euphroe/mppe"
	"euphroe/nthash"
)

// The digits of RFC 3079's example of 128 bits.
const (
	hashDigits     = "44ebba8d5312b8d611474411f56989ae"
	responseDigits = "82309ecd8d708b5ea08faa3981cd83544233114a3d85d6df"
	masterDigits   = "fdece3717a8c838cb388e527ae3cdd31"
	downDigits     = "8b7cdc149b993a1ba118cb153f56dccb"
)

// The sentences of both keys.
const (
	sentenceA = "On the client side, this is the send key; on the server side, it is the receive key."
	sentenceB = "On the client side, this is the receive key; on the server side, it is the send key."
)

// read are the bytes of digits.
func read(digits string) []byte {
	b, err := hex.DecodeString(digits)
	if err != nil {
		panic(err)
	}
	return b
}

// key is the key of a master by a sentence.
func key(master [16]byte, sentence string) [16]byte {
	all := append(master[:], make([]byte, 40)...)
	all = append(all, sentence...)
	all = append(all, bytes.Repeat([]byte{0xF2}, 40)...)
	digest := sha1.Sum(all)
	return [16]byte(digest[:16])
}

// masters are some.
func masters() [][16]byte {
	all := [][16]byte{{}, [16]byte(read(masterDigits)), [16]byte(bytes.Repeat([]byte{255}, 16))}
	for i := range 16 {
		var one [16]byte
		one[i] = byte(i + 1)
		all = append(all, one)
	}
	return all
}

// proofs are some digests with a response each.
func proofs() ([]nthash.Hash, [][24]byte) {
	hashes := []nthash.Hash{{}, nthash.Hash(read(hashDigits))}
	responses := [][24]byte{{}, [24]byte(read(responseDigits))}
	for i := range 8 {
		var h nthash.Hash
		var r [24]byte
		for k := range h {
			h[k] = byte(31*k + 77*i)
		}
		for k := range r {
			r[k] = byte(13*k + 57*i)
		}
		hashes, responses = append(hashes, h), append(responses, r)
	}
	return hashes, responses
}

// P12.1: what RFC 3079 tells.
func TestTheExample(t *testing.T) {
	master := mppe.Master(nthash.Hash(read(hashDigits)), [24]byte(read(responseDigits)))
	if master != [16]byte(read(masterDigits)) {
		t.Errorf("master: %x", master)
	}
	if got := mppe.Of(master, true).Send; got != [16]byte(read(downDigits)) {
		t.Errorf("what a server sends by: %x", got)
	}
	if got := mppe.Of(master, false).Recv; got != [16]byte(read(downDigits)) {
		t.Errorf("what a client receives by: %x", got)
	}
}

// P12.1: the digest of the digest twice, the response, and a sentence, cut.
func TestMaster(t *testing.T) {
	hashes, responses := proofs()
	for _, h := range hashes {
		for _, r := range responses {
			twice := nthash.Twice(h)
			digest := sha1.Sum(append(append(twice[:], r[:]...), "This is the MPPE Master Key"...))
			if got := mppe.Master(h, r); !bytes.Equal(got[:], digest[:16]) {
				t.Errorf("Master(%x, %x): %x", h, r, got)
			}
		}
	}
}

// P12.1: a client sends by A and receives by B, a server the other way round.
func TestOf(t *testing.T) {
	for _, master := range masters() {
		a, b := key(master, sentenceA), key(master, sentenceB)
		if got := mppe.Of(master, false); got != (mppe.Keys{Send: a, Recv: b}) {
			t.Errorf("a client's of %x: %x", master, got)
		}
		if got := mppe.Of(master, true); got != (mppe.Keys{Send: b, Recv: a}) {
			t.Errorf("a server's of %x: %x", master, got)
		}
	}
}

// P12.2: of a client what it sends by is first, of a server what it receives by.
func TestUpper(t *testing.T) {
	var k mppe.Keys
	for i := range 16 {
		k.Send[i], k.Recv[i] = byte(i+1), byte(255-i)
	}
	if got := mppe.Upper(k, false); [16]byte(got[:16]) != k.Send || [16]byte(got[16:]) != k.Recv {
		t.Errorf("a client's: %x", got)
	}
	if got := mppe.Upper(k, true); [16]byte(got[:16]) != k.Recv || [16]byte(got[16:]) != k.Send {
		t.Errorf("a server's: %x", got)
	}
	if mppe.Upper(mppe.Keys{}, true) != ([32]byte{}) {
		t.Error("of noughts")
	}
}

// P12.2: the upper key of a proof.
func TestFrom(t *testing.T) {
	hashes, responses := proofs()
	for _, h := range hashes {
		for _, r := range responses {
			master := mppe.Master(h, r)
			a, b := key(master, sentenceA), key(master, sentenceB)
			for _, server := range []bool{false, true} {
				if got := mppe.From(h, r, server); [16]byte(got[:16]) != a || [16]byte(got[16:]) != b {
					t.Errorf("From(%x, %x, %v): %x", h, r, server, got)
				}
			}
		}
	}
}

// P12.2: noughts are put in its place.
func TestZero(t *testing.T) {
	full := [32]byte(bytes.Repeat([]byte{255}, 32))
	row := [3][32]byte{full, full, full}
	mppe.Zero(&row[1])
	if row != [3][32]byte{full, {}, full} {
		t.Errorf("%x", row)
	}
	mppe.Zero(nil)
}

// P12.3: both sides have one upper key; what one sends by the other one receives by.
func TestBothSides(t *testing.T) {
	for _, master := range masters() {
		client, server := mppe.Of(master, false), mppe.Of(master, true)
		if client.Send != server.Recv || client.Recv != server.Send || client.Send == client.Recv {
			t.Errorf("keys of %x: %x, %x", master, client, server)
		}
		if mppe.Upper(client, false) != mppe.Upper(server, true) {
			t.Errorf("upper keys of %x", master)
		}
	}
	hashes, responses := proofs()
	seen := map[[32]byte]bool{}
	for _, h := range hashes {
		for _, r := range responses {
			up := mppe.From(h, r, true)
			if up != mppe.From(h, r, false) || seen[up] {
				t.Errorf("of %x, %x: %x", h, r, up)
			}
			seen[up] = true
		}
	}
}
