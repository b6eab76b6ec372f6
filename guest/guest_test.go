package guest_test

import (
	"bytes"
	"crypto/aes"
	"crypto/cipher"
	"crypto/hkdf"
	"crypto/hmac"
	"crypto/sha256"
	"encoding/binary"
	"fmt"
	"math"
	"math/rand"
	"regexp"
	"slices"
	"strings"
	"testing"

	"bartizan/api"
	"bartizan/guest"
	"bartizan/note"
)

var isName = regexp.MustCompile(`\A[a-z0-9]{1,20}\z`).MatchString

// word is a word that is unlike for every number.
func word(n int) (w api.Word) {
	binary.BigEndian.PutUint64(w[4:], uint64(n))
	w[0], w[15] = byte(n/7), byte(n)
	return w
}

// filled is a word of one byte.
func filled(c byte) api.Word { return api.Word(bytes.Repeat([]byte{c}, 16)) }

func text(w api.Word) string { return string(w[:]) }

func number(n int64) string { return string(binary.BigEndian.AppendUint64(nil, uint64(n))) }

// sample is bytes without a pattern, the same ones in each run.
func sample(n int) []byte {
	b := make([]byte, n)
	rand.New(rand.NewSource(int64(n))).Read(b)
	return b
}

// encoded is the encoding of fields, as the document's words have it, of any number and of any lengths.
func encoded(texts ...string) string {
	var all strings.Builder
	for _, text := range texts {
		all.WriteString(string([]byte{byte(len(text) / 256), byte(len(text) % 256)}) + text)
	}
	return all.String()
}

// split is the fields whose encoding a text is.
func split(plain string) ([]string, bool) {
	var texts []string
	for plain != "" {
		if len(plain) < 2 {
			return nil, false
		}
		end := 2 + 256*int(plain[0]) + int(plain[1])
		if end > 502 || end > len(plain) || len(texts) == 20 {
			return nil, false
		}
		texts = append(texts, plain[2:end])
		plain = plain[end:]
	}
	return texts, true
}

// box is the two keys of a key and a label, by the library's HKDF: AES, and the key of the code.
func box(key api.Word, label string) (cipher.Block, []byte) {
	keys, err := hkdf.Expand(sha256.New, key[:], "bartizan "+label, 48)
	if err != nil {
		panic(err)
	}
	block, err := aes.NewCipher(keys[:16])
	if err != nil {
		panic(err)
	}
	return block, keys[16:]
}

func code(key []byte, b string) string {
	h := hmac.New(sha256.New, key)
	h.Write([]byte(b))
	return string(h.Sum(nil))
}

// locked is the sealed form by the library's AES, counter mode and HMAC.
func locked(key api.Word, label string, first api.Word, plain string) []byte {
	block, authentication := box(key, label)
	b := []byte(plain)
	cipher.NewCTR(block, first[:]).XORKeyStream(b, b)
	front := text(first) + string(b)
	return []byte(front + code(authentication, front))
}

// sealedAs is sealed fields.
func sealedAs(key api.Word, label string, first api.Word, texts ...string) []byte {
	return locked(key, label, first, encoded(texts...))
}

// partsAs is sealed bytes opened as a number of fields, as the document's words have it.
func partsAs(key api.Word, label string, b []byte, many int) ([]string, api.Errno) {
	if len(b) < 48 {
		return nil, api.ErrShort
	}
	if len(b) > 1048 {
		return nil, api.ErrFull
	}
	block, authentication := box(key, label)
	front := b[:len(b)-32]
	if code(authentication, string(front)) != string(b[len(b)-32:]) {
		return nil, api.ErrSeal
	}
	plain := bytes.Clone(front[16:])
	cipher.NewCTR(block, front[:16]).XORKeyStream(plain, plain)
	texts, ok := split(string(plain))
	if !ok || len(texts) != many {
		return nil, api.ErrForm
	}
	return texts, api.OK
}

// answer is all that a call of Start, Again or Take returns.
type answer struct {
	to     string
	n      note.Note
	events []api.Event
	err    api.Errno
}

func (a answer) told() string {
	var all strings.Builder
	fmt.Fprintf(&all, "error %d to %q %s", a.err, a.to, told(a.n))
	for _, e := range a.events {
		fmt.Fprintf(&all, "; event %+v", e)
	}
	return all.String()
}

func told(n note.Note) string {
	return fmt.Sprintf("%d %q %q %x %x %x %x %x", n.Kind, n.A, n.B, n.X, n.Y, n.P, n.Q, n.R)
}

// wanted is a pending exchange: for NS, k, y and q are those of the NS3, once it came; for Repeat, k is the ticket's.
type wanted struct {
	peer            string
	protocol, phase int
	n               string
	received        bool
	k               api.Word
	y, q            string
}

type owned struct {
	peer, bytes string
	protocol    int
	k           api.Word
}

// model is a guest as the document's words have it: lists of what is pending, and of tickets.
type model struct {
	name    string
	key     api.Word
	pending []wanted
	tickets []owned
}

func (m *model) end(peer string) {
	m.pending = slices.DeleteFunc(m.pending, func(w wanted) bool { return w.peer == peer })
}

func (m *model) lose(peer string) {
	m.tickets = slices.DeleteFunc(m.tickets, func(o owned) bool { return o.peer == peer })
}

func (m *model) begin(w wanted) {
	m.end(w.peer)
	m.pending = append(m.pending, w)
}

func (m *model) gain(o owned) {
	m.lose(o.peer)
	m.tickets = append(m.tickets, o)
}

func (m *model) ticket(peer string) (owned, bool) {
	for _, o := range m.tickets {
		if o.peer == peer {
			return o, true
		}
	}
	return owned{}, false
}

// find is what is pending that has the peer, the protocol and the phase.
func (m *model) find(peer string, protocol, phase int) *wanted {
	for i, w := range m.pending {
		if w.peer == peer && w.protocol == protocol && w.phase == phase {
			return &m.pending[i]
		}
	}
	return nil
}

func (m *model) start(protocol int, peer string, nonce api.Word) answer {
	if protocol != 1 && protocol != 2 || !isName(peer) || peer == m.name {
		return answer{err: api.ErrArg}
	}
	m.begin(wanted{peer: peer, protocol: protocol, phase: 1, n: text(nonce)})
	return answer{n: note.Note{Kind: map[int]int{1: 1, 2: 6}[protocol], A: m.name, X: nonce}}
}

func (m *model) again(peer string, nonce api.Word) answer {
	o, ok := m.ticket(peer)
	if !ok {
		return answer{err: api.ErrName}
	}
	m.begin(wanted{peer: peer, protocol: o.protocol, phase: 2, n: text(nonce), k: o.k})
	return answer{n: note.Note{Kind: 11, Q: []byte(o.bytes), X: nonce}}
}

func (m *model) event(kind, protocol, phase int, peer, n, y string, k api.Word) api.Event {
	return api.Event{Kind: kind, Protocol: protocol, Phase: phase, Who: m.name, Peer: peer, First: api.Word([]byte(n)), Second: api.Word([]byte(y)), Key: k}
}

// take is Take, as the document's words have it, kind by kind.
func (m *model) take(from string, n note.Note, draw api.Word) answer {
	y := text(n.Y)
	switch n.Kind {
	case 3:
		f, err := partsAs(m.key, "ns3", n.P, 4)
		if err != api.OK {
			return answer{err: err}
		}
		if !isName(f[0]) || len(f[1]) != 16 || len(f[2]) != 16 || len(f[3]) != 8 {
			return answer{err: api.ErrForm}
		}
		w := m.find(f[0], 1, 1)
		if w == nil || w.n != f[1] || w.received {
			return answer{err: api.ErrState}
		}
		w.received, w.k, w.y, w.q = true, api.Word([]byte(f[2])), y, string(n.Q)
		reply := note.Note{Kind: 4, Q: bytes.Clone(n.Q), P: sealedAs(w.k, "ns4", draw, w.n, y)}
		return answer{w.peer, reply, []api.Event{m.event(1, 1, 1, w.peer, w.n, y, w.k)}, api.OK}
	case 5:
		w := m.find(from, 1, 1)
		if w == nil || !w.received {
			return answer{err: api.ErrState}
		}
		f, err := partsAs(w.k, "ns5", n.P, 2)
		if err != api.OK {
			return answer{err: err}
		}
		if f[0] != w.n || f[1] != w.y {
			return answer{err: api.ErrState}
		}
		m.gain(owned{from, w.q, 1, w.k})
		events := []api.Event{m.event(2, 1, 1, from, w.n, w.y, w.k)}
		m.end(from)
		return answer{events: events}
	case 9:
		f, err := partsAs(m.key, "k3a", n.P, 3)
		if err != api.OK {
			return answer{err: err}
		}
		if len(f[0]) != 16 || !isName(f[1]) || len(f[2]) != 16 {
			return answer{err: api.ErrForm}
		}
		w, k, peer := m.find(f[1], 2, 1), api.Word([]byte(f[2])), f[1]
		if w == nil || w.n != f[0] {
			return answer{err: api.ErrState}
		}
		r, err := partsAs(k, "k4", n.R, 2)
		if err != api.OK {
			return answer{err: err}
		}
		if r[0] != w.n || r[1] != y {
			return answer{err: api.ErrState}
		}
		m.gain(owned{peer, string(n.Q), 2, k})
		reply := note.Note{Kind: 10, P: sealedAs(k, "k5", draw, w.n, y)}
		events := []api.Event{m.event(1, 2, 1, peer, w.n, y, k), m.event(2, 2, 1, peer, w.n, y, k)}
		m.end(peer)
		return answer{peer, reply, events, api.OK}
	case 12:
		protocol, w := 1, m.find(from, 1, 2)
		if w == nil {
			protocol, w = 2, m.find(from, 2, 2)
		}
		if w == nil {
			return answer{err: api.ErrState}
		}
		f, err := partsAs(w.k, []string{"", "a2ns", "a2ksl"}[protocol], n.P, 2)
		if err != api.OK {
			return answer{err: err}
		}
		if f[0] != w.n || f[1] != y {
			return answer{err: api.ErrState}
		}
		reply := note.Note{Kind: 13, P: sealedAs(w.k, []string{"", "a3ns", "a3ksl"}[protocol], draw, w.n, y)}
		events := []api.Event{m.event(1, protocol, 2, from, w.n, y, w.k), m.event(2, protocol, 2, from, w.n, y, w.k)}
		m.end(from)
		return answer{from, reply, events, api.OK}
	case 16:
		m.lose(n.A)
		m.end(n.A)
		return answer{}
	}
	return answer{err: api.ErrState}
}

// watched is a guest, each answer of which is compared with that of the model; draws counts the draws that were handed in.
type watched struct {
	t     *testing.T
	g     *guest.Guest
	m     model
	draws int
}

// watch is the guest ann, with the key word(1).
func watch(t *testing.T) *watched { return watchOf(t, "ann", word(1)) }

func watchOf(t *testing.T, name string, key api.Word) *watched {
	t.Helper()
	g, err := guest.New(name, key)
	if g == nil || err != api.OK {
		t.Fatalf("New: error %d", err)
	}
	return &watched{t: t, g: g, m: model{name: name, key: key}}
}

func (w *watched) same(what string, got, want answer) answer {
	w.t.Helper()
	if got.told() != want.told() {
		w.t.Errorf("%s:\n got %s\nwant %s", what, got.told(), want.told())
	}
	if got.n.Kind != 0 && !note.Right(got.n) {
		w.t.Errorf("%s: a note that is not valid: %s", what, told(got.n))
	}
	return got
}

func (w *watched) start(protocol int, peer string, nonce api.Word) answer {
	w.t.Helper()
	n, err := w.g.Start(protocol, peer, nonce)
	return w.same("Start", answer{n: n, err: err}, w.m.start(protocol, peer, nonce))
}

func (w *watched) again(peer string, nonce api.Word) answer {
	w.t.Helper()
	n, err := w.g.Again(peer, nonce)
	return w.same("Again", answer{n: n, err: err}, w.m.again(peer, nonce))
}

func (w *watched) take(from string, n note.Note) answer {
	w.t.Helper()
	w.draws++
	draw, before := word(1000+w.draws), told(n)
	if !note.Right(n) {
		w.t.Fatalf("a note that is not valid is handed in: %s", before)
	}
	to, reply, events, err := w.g.Take(from, n, draw)
	if told(n) != before {
		w.t.Errorf("Take changed its note")
	}
	return w.same(fmt.Sprintf("Take of kind %d from %.30q", n.Kind, from), answer{to, reply, events, err}, w.m.take(from, n, draw))
}

// has: Has answers as the model, for all these peers.
func (w *watched) has(peers ...string) {
	w.t.Helper()
	for _, peer := range peers {
		protocol, ok := w.g.Has(peer)
		o, want := w.m.ticket(peer)
		if protocol != o.protocol || ok != want {
			w.t.Errorf("Has %.30q: %d and %v, want %d and %v", peer, protocol, ok, o.protocol, want)
		}
	}
}

// errs: an answer is an error, with nothing beside it (R1).
func (w *watched) errs(what string, got answer, want api.Errno) {
	w.t.Helper()
	if got.told() != (answer{err: want}).told() || len(got.events) != 0 {
		w.t.Errorf("%s: %s, want error %d", what, got.told(), want)
	}
}

// fits: an answer has no error.
func (w *watched) fits(what string, got answer) answer {
	w.t.Helper()
	if got.err != api.OK {
		w.t.Errorf("%s: error %d", what, got.err)
	}
	return got
}

// The nonces, keys and tickets of the tests, by a number that each exchange has: ann's nonce, the peer's, the key, the ticket.
func own(i int) api.Word   { return word(100*i + 10) }
func other(i int) api.Word { return word(100*i + 20) }
func key(i int) api.Word   { return word(100*i + 30) }
func slip(i int) []byte    { return sample(60 + i) }

// The notes that fit exchange i of ann with a peer.
func ns3(peer string, i int) note.Note {
	p := sealedAs(word(1), "ns3", word(50), peer, text(own(i)), text(key(i)), number(int64(i)))
	return note.Note{Kind: note.NS3, P: p, Q: slip(i), Y: other(i)}
}

func ns5(i int) note.Note {
	return note.Note{Kind: note.NS5, P: sealedAs(key(i), "ns5", word(51), text(own(i)), text(other(i)))}
}

func ksl4(peer string, i int) note.Note {
	p := sealedAs(word(1), "k3a", word(52), text(own(i)), peer, text(key(i)))
	return note.Note{Kind: note.KSL4, P: p, Q: slip(i), R: sealedAs(key(i), "k4", word(53), text(own(i)), text(other(i))), Y: other(i)}
}

// again2 is that of exchange i, by a ticket with the key of exchange j.
func again2(protocol, i, j int) note.Note {
	label := map[int]string{api.NS: "a2ns", api.KSL: "a2ksl"}[protocol]
	return note.Note{Kind: note.Again2, P: sealedAs(key(j), label, word(54), text(own(i)), text(other(i))), Y: other(i)}
}

func sorry(peer string) note.Note { return note.Note{Kind: note.Sorry, A: peer} }

// The calls that bring ann to a state, by exchange i: waits for NS with the key received; has a ticket of NS, of KSL.
func (w *watched) received(peer string, i int) {
	w.t.Helper()
	w.fits("Start", w.start(api.NS, peer, own(i)))
	w.fits("NS3", w.take("kdc", ns3(peer, i)))
}

func (w *watched) ticketNS(peer string, i int) {
	w.t.Helper()
	w.received(peer, i)
	w.fits("NS5", w.take(peer, ns5(i)))
}

func (w *watched) ticketKSL(peer string, i int) {
	w.t.Helper()
	w.fits("Start", w.start(api.KSL, peer, own(i)))
	w.fits("KSL4", w.take(peer, ksl4(peer, i)))
}

// notNames is texts that are no names.
func notNames() []string {
	return []string{"", "Ann", "a b", "ann ", " ann", "a-b", "a_b", "ä", "a\x00", "\x00", "\xff", "/", ":", "`", "{", "@", "[", "ann\n", strings.Repeat("a", 21), strings.Repeat("a", 256+3), strings.Repeat("0", 1000)}
}

func TestExample(t *testing.T) { // P17.2: the chapter's example
	w := watch(t)
	w.errs("NS5 when nothing was begun", w.take("bob", ns5(1)), api.ErrState)
}

func TestNew(t *testing.T) { // P17.1: names, and texts that are none
	for _, name := range []string{"a", "z", "0", "9", "ann", "kdc", "p0", "t0", strings.Repeat("a", 19), strings.Repeat("z", 20), "0123456789abcdefghij"} {
		for _, key := range []api.Word{{}, word(1), filled(255)} {
			w := watchOf(t, name, key)
			w.has("bob", name, "")
			w.errs("Again", w.again("bob", word(2)), api.ErrName)
			if n := w.start(api.NS, "bob", word(2)).n; n.A != name {
				t.Errorf("%q has the name %q", name, n.A)
			}
		}
	}
	for _, name := range notNames() {
		for _, key := range []api.Word{{}, word(1)} {
			if g, err := guest.New(name, key); g != nil || err != api.ErrArg {
				t.Errorf("New of %.30q: error %d", name, err)
			}
		}
	}
	for c := range 256 {
		for _, name := range []string{string([]byte{byte(c)}), string([]byte{'a', byte(c), 'b'})} {
			g, err := guest.New(name, word(1))
			if (g != nil) != isName(name) || (err == api.OK) != isName(name) {
				t.Errorf("New of %q: error %d", name, err)
			}
		}
	}
}

func TestStart(t *testing.T) { // P17.1: each field of the NS1 and the KSL1
	for _, nonce := range []api.Word{{}, word(2), filled(255), {15: 1}} {
		for _, peer := range []string{"bob", "b", "an", "annn", "0", "kdc", strings.Repeat("z", 20)} {
			for protocol, kind := range map[int]int{api.NS: note.NS1, api.KSL: note.KSL1} {
				w := watch(t)
				got := w.start(protocol, peer, nonce)
				want := note.Note{Kind: kind, A: "ann", X: nonce}
				if got.err != api.OK || told(got.n) != told(want) {
					t.Errorf("Start of %d: %s, want %s", protocol, got.told(), told(want))
				}
				w.has(peer, "ann")
			}
		}
	}
}

func TestStartOfWrongArguments(t *testing.T) { // P17.1: ErrArg for other protocols, for what is no name, for its own name; and nothing is changed by it
	protocols := []int{0, 3, -1, -2, 4, 5, 257, 258, 1 << 32, 1<<32 + 1, 1<<32 + 2, math.MaxInt, math.MinInt, math.MinInt + 1, math.MinInt + 2}
	w := watch(t)
	w.ticketKSL("bob", 1)
	w.received("bob", 2)
	for _, protocol := range protocols {
		for _, peer := range []string{"bob", "ann", "carol", "", "Bob"} {
			w.errs("another protocol", w.start(protocol, peer, own(3)), api.ErrArg)
		}
	}
	for _, protocol := range append(protocols, api.NS, api.KSL) {
		for _, peer := range append(notNames(), "ann") {
			w.errs("another name", w.start(protocol, peer, own(3)), api.ErrArg)
		}
	}
	w.has("ann", "bob", "carol", "")
	w.fits("NS5 behind all of that", w.take("bob", ns5(2)))
	for c := range 256 {
		peer := string([]byte{'a', byte(c)})
		if got := w.start(api.NS, peer, word(c)); (got.err == api.OK) != isName(peer) {
			t.Errorf("Start with %q: error %d", peer, got.err)
		}
	}
}

func TestAgain(t *testing.T) { // P17.1: each field of the Again1, with a ticket of each protocol
	for _, nonce := range []api.Word{{}, word(2), filled(255), own(1)} {
		for _, protocol := range []int{api.NS, api.KSL} {
			w := watch(t)
			if protocol == api.NS {
				w.ticketNS("bob", 1)
			} else {
				w.ticketKSL("bob", 1)
			}
			for range 3 { // a ticket can be used repeatedly
				got := w.again("bob", nonce)
				want := note.Note{Kind: note.Again1, Q: slip(1), X: nonce}
				if got.err != api.OK || told(got.n) != told(want) {
					t.Errorf("Again: %s, want %s", got.told(), told(want))
				}
				w.has("bob")
			}
		}
	}
}

func TestAgainWithoutTicket(t *testing.T) { // P17.1: ErrName, also for what is no name; and nothing is changed by it
	w := watch(t)
	for _, peer := range append(notNames(), "ann", "bob") {
		w.errs("without any ticket", w.again(peer, own(1)), api.ErrName)
	}
	w.start(api.NS, "bob", own(1))
	w.errs("with Start behind", w.again("bob", own(9)), api.ErrName)
	w.fits("NS3", w.take("kdc", ns3("bob", 1)))
	w.errs("with NS3 behind", w.again("bob", own(9)), api.ErrName)
	w.fits("NS5", w.take("bob", ns5(1)))
	w.fits("with NS5 behind", w.again("bob", own(9)))
	w.start(api.KSL, "carol", own(2))
	w.errs("with Start of KSL behind", w.again("carol", own(9)), api.ErrName)
	w.fits("KSL4", w.take("carol", ksl4("carol", 2)))
	for _, peer := range append(notNames(), "ann", "dan", "bobb", "bo", "kdc") {
		w.errs("with other tickets", w.again(peer, own(9)), api.ErrName)
	}
	w.fits("with KSL4 behind", w.again("carol", own(9)))
	w.fits("Sorry", w.take("carol", sorry("carol")))
	w.errs("with Sorry behind", w.again("carol", own(9)), api.ErrName)
	w.fits("of another peer", w.again("bob", own(9)))
}

func TestHas(t *testing.T) { // P17.1: without a ticket, with one of each protocol, behind a newer one, behind Sorry
	w := watch(t)
	is := func(what, peer string, protocol int) {
		t.Helper()
		w.has("ann", "bob", "carol", "", "Bob")
		if got, ok := w.g.Has(peer); got != protocol || ok != (protocol != 0) {
			t.Errorf("%s: Has %s: %d and %v", what, peer, got, ok)
		}
	}
	is("at first", "bob", 0)
	w.start(api.NS, "bob", own(1))
	is("Start", "bob", 0)
	w.take("kdc", ns3("bob", 1))
	is("NS3", "bob", 0)
	w.take("bob", ns5(1))
	is("NS5", "bob", api.NS)
	is("NS5", "carol", 0)
	w.start(api.KSL, "bob", own(2))
	is("another Start", "bob", api.NS)
	w.take("bob", ksl4("bob", 2))
	is("KSL4", "bob", api.KSL)
	w.ticketNS("carol", 3)
	is("NS5 of another", "bob", api.KSL)
	is("NS5 of another", "carol", api.NS)
	w.again("bob", own(4))
	w.take("bob", again2(api.KSL, 4, 2))
	is("Again2", "bob", api.KSL)
	w.ticketNS("bob", 5)
	is("a newer NS5", "bob", api.NS)
	w.take("bob", sorry("bob"))
	is("Sorry", "bob", 0)
	is("Sorry", "carol", api.NS)
	w.ticketKSL("bob", 6)
	is("KSL4 behind Sorry", "bob", api.KSL)
}

func TestNewerTicket(t *testing.T) { // P17.1, P17.2: the newest ticket counts, with its bytes, key and protocol
	w := watch(t)
	for i := 1; i < 12; i++ {
		protocol := 1 + (i/2)%2
		if protocol == api.NS {
			w.ticketNS("bob", i)
		} else {
			w.ticketKSL("bob", i)
		}
		got := w.again("bob", own(100+i))
		if !bytes.Equal(got.n.Q, slip(i)) {
			t.Errorf("ticket %d: %s", i, got.told())
		}
		if i > 1 {
			w.take("bob", again2(protocol, 100+i, i-1))
		}
		w.fits("Again2", w.take("bob", again2(protocol, 100+i, i)))
	}
}
