package host_test

import (
	"bytes"
	"crypto/aes"
	"crypto/cipher"
	"crypto/hkdf"
	"crypto/hmac"
	"crypto/sha256"
	"encoding/binary"
	"fmt"
	"math"
	"math/big"
	"math/rand"
	"regexp"
	"slices"
	"strings"
	"testing"

	"bartizan/api"
	"bartizan/book"
	"bartizan/clock"
	"bartizan/host"
	"bartizan/note"
)

var isName = regexp.MustCompile(`\A[a-z0-9]{1,20}\z`).MatchString

// word is a word that is unlike for every number.
func word(n int) (w api.Word) {
	binary.BigEndian.PutUint64(w[4:], uint64(n))
	w[0], w[15] = byte(n/7), byte(n)
	return w
}

// filled is a word of one byte.
func filled(c byte) api.Word { return api.Word(bytes.Repeat([]byte{c}, 16)) }

func text(w api.Word) string { return string(w[:]) }

func number(n int64) string { return string(binary.BigEndian.AppendUint64(nil, uint64(n))) }

// sample is bytes without a pattern, the same ones in each run.
func sample(n int) []byte {
	b := make([]byte, n)
	rand.New(rand.NewSource(int64(n))).Read(b)
	return b
}

// encoded is the encoding of fields, as the document's words have it, of any number and of any lengths.
func encoded(texts ...string) string {
	var all strings.Builder
	for _, text := range texts {
		all.WriteString(string([]byte{byte(len(text) / 256), byte(len(text) % 256)}) + text)
	}
	return all.String()
}

// split is the fields whose encoding a text is.
func split(plain string) ([]string, bool) {
	var texts []string
	for plain != "" {
		if len(plain) < 2 {
			return nil, false
		}
		end := 2 + 256*int(plain[0]) + int(plain[1])
		if end > 502 || end > len(plain) || len(texts) == 20 {
			return nil, false
		}
		texts = append(texts, plain[2:end])
		plain = plain[end:]
	}
	return texts, true
}

// box is the two keys of a key and a label, by the library's HKDF: AES, and the key of the code.
func box(key api.Word, label string) (cipher.Block, []byte) {
	keys, err := hkdf.Expand(sha256.New, key[:], "bartizan "+label, 48)
	if err != nil {
		panic(err)
	}
	block, err := aes.NewCipher(keys[:16])
	if err != nil {
		panic(err)
	}
	return block, keys[16:]
}

func code(key []byte, b string) string {
	h := hmac.New(sha256.New, key)
	h.Write([]byte(b))
	return string(h.Sum(nil))
}

// locked is the sealed form by the library's AES, counter mode and HMAC.
func locked(key api.Word, label string, first api.Word, plain string) []byte {
	block, authentication := box(key, label)
	b := []byte(plain)
	cipher.NewCTR(block, first[:]).XORKeyStream(b, b)
	front := text(first) + string(b)
	return []byte(front + code(authentication, front))
}

// sealedAs is sealed fields.
func sealedAs(key api.Word, label string, first api.Word, texts ...string) []byte {
	return locked(key, label, first, encoded(texts...))
}

// partsAs is sealed bytes opened as a number of fields, as the document's words have it.
func partsAs(key api.Word, label string, b []byte, many int) ([]string, api.Errno) {
	if len(b) < 48 {
		return nil, api.ErrShort
	}
	if len(b) > 1048 {
		return nil, api.ErrFull
	}
	block, authentication := box(key, label)
	front := b[:len(b)-32]
	if code(authentication, string(front)) != string(b[len(b)-32:]) {
		return nil, api.ErrSeal
	}
	plain := bytes.Clone(front[16:])
	cipher.NewCTR(block, front[:16]).XORKeyStream(plain, plain)
	texts, ok := split(string(plain))
	if !ok || len(texts) != many {
		return nil, api.ErrForm
	}
	return texts, api.OK
}

// answer is all that a call of Take returns.
type answer struct {
	to     string
	n      note.Note
	events []api.Event
	err    api.Errno
}

func (a answer) told() string {
	var all strings.Builder
	fmt.Fprintf(&all, "error %d to %q %s", a.err, a.to, told(a.n))
	for _, e := range a.events {
		fmt.Fprintf(&all, "; event %+v", e)
	}
	return all.String()
}

func told(n note.Note) string {
	return fmt.Sprintf("%d %q %q %x %x %x %x %x", n.Kind, n.A, n.B, n.X, n.Y, n.P, n.Q, n.R)
}

// mine is a pending nonce of the host's own, d; n is the initiator's.
type mine struct {
	d, initiator, n string
	protocol        int
}

type awaited struct {
	initiator       string
	protocol, phase int
	n, d            string
	k               api.Word
}

// model is a host as the document's words have it: lists of what is pending, and of waits, the oldest first.
type model struct {
	name    string
	key     api.Word
	life    int64
	b       book.Book
	c       clock.Clock
	pending []mine
	waits   []awaited
}

// slack is ticks * ppm / 1000000, rounded up.
func slack(ticks int64, ppm int) int64 {
	product := new(big.Int).Mul(big.NewInt(ticks), big.NewInt(int64(ppm)))
	return new(big.Int).Div(product.Add(product, big.NewInt(999999)), big.NewInt(1000000)).Int64()
}

// now is the time at a reading; false where it is not known.
func (m *model) now(at int64) (lo, hi int64, known bool) {
	far, c := int64(1)<<60, m.c
	if !c.On || c.Ppm < 0 || c.Ppm > 100000 || c.At < 0 || c.At > far || c.S.Lo < -far || c.S.Hi > far || c.S.Lo > c.S.Hi || at < c.At || at > far {
		return 0, 0, false
	}
	part := slack(at-c.At, c.Ppm)
	return max(-far, c.S.Lo+(at-c.At)-part), min(far, c.S.Hi+(at-c.At)+part), true
}

// check is the check of a ticket.
func (m *model) check(q []byte, expiry, at int64) api.Errno {
	digest := sha256.Sum256(q)
	for _, revoked := range m.b.Revoked {
		if text(revoked) == string(digest[:16]) {
			return api.ErrKey
		}
	}
	_, hi, known := m.now(at)
	if !known {
		return api.ErrTime
	}
	if hi > expiry {
		return api.ErrLate
	}
	return api.OK
}

func (m *model) expiry(lo int64) string { return number(min(lo+m.life, 1<<60)) }

// pend makes a nonce pending; the oldest one makes room.
func (m *model) pend(p mine) {
	for i, old := range m.pending {
		if old.d == p.d {
			m.pending[i] = p
			return
		}
	}
	m.pending = append(m.pending, p)
	if len(m.pending) == 21 {
		m.pending = m.pending[1:]
	}
}

func (m *model) unpend(d string) {
	m.pending = slices.DeleteFunc(m.pending, func(p mine) bool { return p.d == d })
}

// begun is the pending nonce d, if it is for that initiator and protocol.
func (m *model) begun(d, initiator string, protocol int) *mine {
	for i, p := range m.pending {
		if p.d == d && p.initiator == initiator && p.protocol == protocol {
			return &m.pending[i]
		}
	}
	return nil
}

// await makes the host wait; the oldest wait makes room.
func (m *model) await(w awaited) {
	if old := m.awaits(w.initiator, w.protocol, w.phase); old != nil {
		*old = w
		return
	}
	m.waits = append(m.waits, w)
	if len(m.waits) == 21 {
		m.waits = m.waits[1:]
	}
}

func (m *model) awaits(initiator string, protocol, phase int) *awaited {
	for i, w := range m.waits {
		if w.initiator == initiator && w.protocol == protocol && w.phase == phase {
			return &m.waits[i]
		}
	}
	return nil
}

func (m *model) unwait(w awaited) {
	m.waits = slices.DeleteFunc(m.waits, func(old awaited) bool { return old == w })
}

func (m *model) event(kind int, w awaited) api.Event {
	return api.Event{Kind: kind, Protocol: w.protocol, Phase: w.phase, Who: m.name, Peer: w.initiator, First: api.Word([]byte(w.n)), Second: api.Word([]byte(w.d)), Key: w.k}
}

// isTicket: a name, a word, a number, and perhaps another number.
func isTicket(f []string) bool {
	return isName(f[0]) && len(f[1]) == 16 && len(f[2]) == 8 && (len(f) == 3 || len(f[3]) == 8)
}

func numberOf(b string) int64 { return int64(binary.BigEndian.Uint64([]byte(b))) }

// take is Take, as the document's words have it, kind by kind.
func (m *model) take(from string, n note.Note, at int64, draws [4]api.Word) answer {
	d0, x := text(draws[0]), text(n.X)
	lo, _, known := m.now(at)
	switch n.Kind {
	case 1:
		if n.A == m.name {
			return answer{err: api.ErrArg}
		}
		if !known {
			return answer{err: api.ErrTime}
		}
		m.pend(mine{d0, n.A, x, 1})
		return answer{to: "kdc", n: note.Note{Kind: 2, B: m.name, P: sealedAs(m.key, "ns2", draws[1], n.A, x, m.expiry(lo)), Y: draws[0]}}
	case 4:
		return m.takeNS4(n, at, draws)
	case 6:
		if n.A == m.name {
			return answer{err: api.ErrArg}
		}
		m.pend(mine{d0, n.A, x, 2})
		return answer{to: "kdc", n: note.Note{Kind: 7, A: n.A, X: n.X, B: m.name, Y: draws[0]}}
	case 8:
		return m.takeKSL3(n, at, draws)
	case 10:
		w := m.awaits(from, 2, 1)
		if w == nil {
			return answer{err: api.ErrState}
		}
		f, err := partsAs(w.k, "k5", n.P, 2)
		if err != api.OK {
			return answer{err: err}
		}
		if f[0] != w.n || f[1] != w.d {
			return answer{err: api.ErrState}
		}
		done := *w
		m.unwait(done)
		return answer{events: []api.Event{m.event(2, done)}}
	case 11:
		return m.takeAgain1(n, at, draws)
	case 13:
		for protocol, label := range []string{1: "a3ns", 2: "a3ksl"} {
			w := m.awaits(from, protocol, 2)
			if w == nil {
				continue
			}
			f, err := partsAs(w.k, label, n.P, 2)
			if err == api.OK && f[0] == w.n && f[1] == w.d {
				done := *w
				m.unwait(done)
				return answer{events: []api.Event{m.event(2, done)}}
			}
		}
	}
	return answer{err: api.ErrState}
}

func (m *model) takeNS4(n note.Note, at int64, draws [4]api.Word) answer {
	q, err := partsAs(m.key, "nst", n.Q, 3)
	if err != api.OK {
		return answer{err: err}
	}
	if !isTicket(q) {
		return answer{err: api.ErrForm}
	}
	if err := m.check(n.Q, numberOf(q[2]), at); err != api.OK {
		return answer{err: err}
	}
	k := api.Word([]byte(q[1]))
	f, err := partsAs(k, "ns4", n.P, 2)
	if err != api.OK {
		return answer{err: err}
	}
	p := m.begun(f[1], q[0], 1)
	if len(f[0]) != 16 || len(f[1]) != 16 || p == nil || p.n != f[0] {
		return answer{err: api.ErrState}
	}
	m.unpend(f[1])
	w := awaited{q[0], 1, 1, f[0], f[1], k}
	reply := note.Note{Kind: 5, P: sealedAs(k, "ns5", draws[0], f[0], f[1])}
	return answer{q[0], reply, []api.Event{m.event(1, w), m.event(2, w)}, api.OK}
}

func (m *model) takeKSL3(n note.Note, at int64, draws [4]api.Word) answer {
	f, err := partsAs(m.key, "k3b", n.P, 3)
	if err != api.OK {
		return answer{err: err}
	}
	if len(f[0]) != 16 || !isName(f[1]) || len(f[2]) != 16 {
		return answer{err: api.ErrForm}
	}
	p := m.begun(f[0], f[1], 2)
	if p == nil {
		return answer{err: api.ErrState}
	}
	if m.b.Gen == 0 {
		return answer{err: api.ErrKey}
	}
	lo, _, known := m.now(at)
	if !known {
		return answer{err: api.ErrTime}
	}
	w := awaited{f[1], 2, 1, p.n, text(draws[0]), api.Word([]byte(f[2]))}
	m.unpend(f[0])
	m.await(w)
	reply := note.Note{
		Kind: 9, P: bytes.Clone(n.Q), Y: draws[0],
		Q: sealedAs(m.b.Own, "kt", draws[1], f[1], f[2], m.expiry(lo), number(int64(m.b.Gen))),
		R: sealedAs(w.k, "k4", draws[2], w.n, w.d),
	}
	return answer{f[1], reply, []api.Event{m.event(1, w)}, api.OK}
}

func (m *model) takeAgain1(n note.Note, at int64, draws [4]api.Word) answer {
	protocol, label := 1, "a2ns"
	q, err := partsAs(m.key, "nst", n.Q, 3)
	if err != api.OK && m.b.Gen > 0 {
		protocol, label = 2, "a2ksl"
		q, err = partsAs(m.b.Own, "kt", n.Q, 4)
	}
	if err != api.OK {
		return answer{err: api.ErrSeal}
	}
	if !isTicket(q) {
		return answer{err: api.ErrForm}
	}
	if protocol == 2 && numberOf(q[3]) != int64(m.b.Gen) {
		return answer{err: api.ErrKey}
	}
	if err := m.check(n.Q, numberOf(q[2]), at); err != api.OK {
		return answer{err: err}
	}
	w := awaited{q[0], protocol, 2, text(n.X), text(draws[0]), api.Word([]byte(q[1]))}
	m.await(w)
	reply := note.Note{Kind: 12, P: sealedAs(w.k, label, draws[1], w.n, w.d), Y: draws[0]}
	return answer{w.initiator, reply, []api.Event{m.event(1, w)}, api.OK}
}

// The times of the tests: those of a host that is ready go from 5039 to 5051.
const (
	life   = 1000
	at     = 100
	lo, hi = 5039, 5051
	expiry = 6000 // of tickets
	gen    = 3
)

// goodClock has slack 1 at the reading.
func goodClock() clock.Clock {
	return clock.Clock{Ppm: 1000, On: true, At: 60, S: api.Span{Lo: 5000, Hi: 5010}}
}

func goodBook() book.Book { return book.Book{Gen: gen, Own: word(2)} }

// watched is a host, each answer of which is compared with that of the model; count is that of the Takes whose draws were new.
type watched struct {
	t     *testing.T
	h     *host.Host
	m     model
	count int
	lost  []refusal
}

// refusal is a Take that had an error.
type refusal struct {
	n     note.Note
	draws [4]api.Word
}

// watch is the host bob, with the key word(1), a book and a clock.
func watch(t *testing.T) *watched {
	t.Helper()
	w := watchOf(t, "bob", word(1), life)
	w.books(goodBook())
	w.clock(goodClock())
	return w
}

// watchOf is a host with an empty book and a clock that is off.
func watchOf(t *testing.T, name string, key api.Word, life int64) *watched {
	t.Helper()
	h, err := host.New(name, key, life)
	if h == nil || err != api.OK {
		t.Fatalf("New: error %d", err)
	}
	return &watched{t: t, h: h, m: model{name: name, key: key, life: life}}
}

func (w *watched) books(b book.Book) {
	w.h.Books(b)
	w.m.b = book.Book{L: slices.Clone(b.L), Revoked: slices.Clone(b.Revoked), Gen: b.Gen, Own: b.Own}
}

func (w *watched) clock(c clock.Clock) {
	w.h.Clock(c)
	w.m.c = c
}

func (w *watched) forget() {
	w.h.Forget()
	w.m.pending, w.m.waits = nil, nil
}

// takeAs is a Take at a reading with draws.
func (w *watched) takeAs(from string, n note.Note, at int64, draws [4]api.Word) answer {
	w.t.Helper()
	before := told(n)
	if !note.Right(n) {
		w.t.Fatalf("a note that is not valid is handed in: %s", before)
	}
	to, reply, events, err := w.h.Take(from, n, at, draws)
	if told(n) != before {
		w.t.Errorf("Take changed its note")
	}
	got, want := answer{to, reply, events, err}, w.m.take(from, n, at, draws)
	if got.told() != want.told() {
		w.t.Errorf("Take of kind %d from %.30q:\n got %s\nwant %s", n.Kind, from, got.told(), want.told())
	}
	if reply.Kind != 0 && !note.Right(reply) {
		w.t.Errorf("a note that is not valid: %s", told(reply))
	}
	w.holds(n, got, at)
	if err != api.OK {
		w.lost = append(w.lost, refusal{n, draws})
	}
	return got
}

// holds: without a known time no ticket is accepted and none is issued; one that is accepted has an expiry that is not earlier than any time of the interval (P18.3).
func (w *watched) holds(n note.Note, got answer, at int64) {
	w.t.Helper()
	now, err := clock.Now(w.m.c, at)
	if err != api.OK && (got.n.Kind == note.NS2 || got.n.Kind == note.NS5 || got.n.Kind == note.KSL4 || got.n.Kind == note.Again2) {
		w.t.Errorf("no time is known: %s", got.told())
	}
	if got.err != api.OK || n.Kind != note.NS4 && n.Kind != note.Again1 {
		return
	}
	f, err := partsAs(w.m.key, "nst", n.Q, 3)
	if err != api.OK {
		f, err = partsAs(w.m.b.Own, "kt", n.Q, 4)
	}
	if err != api.OK || numberOf(f[2]) < now.Lo || numberOf(f[2]) < now.Hi {
		w.t.Errorf("error %d, a ticket %q is accepted at %+v", err, f, now)
	}
}

// newDraws is draws that no Take had.
func (w *watched) newDraws() [4]api.Word {
	w.count++
	i := 1000000 + 4*w.count
	return [4]api.Word{word(i), word(i + 1), word(i + 2), word(i + 3)}
}

func (w *watched) take(from string, n note.Note) answer {
	w.t.Helper()
	return w.takeAs(from, n, at, w.newDraws())
}

// errs: an answer is an error, with nothing beside it (R1).
func (w *watched) errs(what string, got answer, want api.Errno) {
	w.t.Helper()
	if got.told() != (answer{err: want}).told() || len(got.events) != 0 {
		w.t.Errorf("%s: %s, want error %d", what, got.told(), want)
	}
}

// fits: an answer has no error.
func (w *watched) fits(what string, got answer) answer {
	w.t.Helper()
	if got.err != api.OK {
		w.t.Errorf("%s: error %d", what, got.err)
	}
	return got
}

// The nonces, keys and tickets of the tests, by a number that each exchange has: the initiator's nonce, the host's, the one that the host has for the kdc of KSL, the key.
func first(i int) api.Word  { return word(100*i + 10) }
func second(i int) api.Word { return word(100*i + 20) }
func mark(i int) api.Word   { return word(100*i + 30) }
func key(i int) api.Word    { return word(100*i + 40) }

// both is the fields by which the two show each other that they have the key.
func both(i int) []string { return []string{text(first(i)), text(second(i))} }

// drawsOf is draws with a nonce in front.
func drawsOf(nonce api.Word, i int) [4]api.Word {
	return [4]api.Word{nonce, word(100*i + 51), word(100*i + 52), word(100*i + 53)}
}

func ticketNS(peer string, i int) []byte {
	return sealedAs(word(1), "nst", word(50), peer, text(key(i)), number(expiry))
}

func ticketKSL(peer string, i int) []byte {
	return sealedAs(word(2), "kt", word(51), peer, text(key(i)), number(expiry), number(gen))
}

func ticketOf(protocol int, peer string, i int) []byte {
	if protocol == api.NS {
		return ticketNS(peer, i)
	}
	return ticketKSL(peer, i)
}

// The notes that fit exchange i with a peer.
func ns1(peer string, i int) note.Note { return note.Note{Kind: note.NS1, A: peer, X: first(i)} }

func ns4(peer string, i int) note.Note {
	return note.Note{Kind: note.NS4, Q: ticketNS(peer, i), P: sealedAs(key(i), "ns4", word(52), both(i)...)}
}

func ksl1(peer string, i int) note.Note { return note.Note{Kind: note.KSL1, A: peer, X: first(i)} }

func ksl3(peer string, i int) note.Note {
	return note.Note{Kind: note.KSL3, P: sealedAs(word(1), "k3b", word(53), text(mark(i)), peer, text(key(i))), Q: sample(60 + i)}
}

func ksl5(i int) note.Note {
	return note.Note{Kind: note.KSL5, P: sealedAs(key(i), "k5", word(54), both(i)...)}
}

func again1(protocol int, peer string, i int) note.Note {
	return note.Note{Kind: note.Again1, Q: ticketOf(protocol, peer, i), X: first(i)}
}

func again3(protocol, i int) note.Note {
	label := map[int]string{api.NS: "a3ns", api.KSL: "a3ksl"}[protocol]
	return note.Note{Kind: note.Again3, P: sealedAs(key(i), label, word(55), both(i)...)}
}

// The calls of exchange i with a peer: behind begin, its nonce is pending; behind wait and repeat, the host waits.
func (w *watched) begin(protocol int, peer string, i int) answer {
	w.t.Helper()
	if protocol == api.NS {
		return w.fits("NS1", w.takeAs("x", ns1(peer, i), at, drawsOf(second(i), i)))
	}
	return w.fits("KSL1", w.takeAs("x", ksl1(peer, i), at, drawsOf(mark(i), i)))
}

func (w *watched) wait(peer string, i int) answer {
	w.t.Helper()
	w.begin(api.KSL, peer, i)
	return w.fits("KSL3", w.takeAs("x", ksl3(peer, i), at, drawsOf(second(i), i)))
}

func (w *watched) repeat(protocol int, peer string, i int) answer {
	w.t.Helper()
	return w.fits("Again1", w.takeAs("x", again1(protocol, peer, i), at, drawsOf(second(i), i)))
}

// notNames is texts that are no names.
func notNames() []string {
	return []string{"", "Ann", "a b", "ann ", " ann", "a-b", "a_b", "ä", "a\x00", "\x00", "\xff", "/", ":", "`", "{", "@", "[", "ann\n", strings.Repeat("a", 21), strings.Repeat("a", 256+3), strings.Repeat("0", 1000)}
}

func TestExample(t *testing.T) { // P18.2: the chapter's example
	w := watchOf(t, "bob", word(1), life)
	w.errs("NS1 with a clock that is off", w.take("ann", ns1("ann", 1)), api.ErrTime)
}

func TestNew(t *testing.T) { // P18.1: names, texts that are none, lives in and out of range
	lives := map[int64]bool{1: true, 2: true, 1000: true, api.Far - 1: true, api.Far: true, 0: false, -1: false, api.Far + 1: false, -api.Far: false, math.MaxInt64: false, math.MinInt64: false, 1 << 61: false}
	names := append(notNames(), "a", "z", "0", "9", "ann", "kdc", "p0", "t0", strings.Repeat("a", 19), strings.Repeat("z", 20), "0123456789abcdefghij")
	for c := range 256 {
		names = append(names, string([]byte{byte(c)}), string([]byte{'a', byte(c), 'b'}))
	}
	for _, name := range names {
		for life, good := range lives {
			for _, key := range []api.Word{{}, word(1), filled(255)} {
				h, err := host.New(name, key, life)
				if good && isName(name) {
					if h == nil || err != api.OK {
						t.Errorf("New of %q, life %d: error %d", name, life, err)
					}
				} else if h != nil || err != api.ErrArg {
					t.Errorf("New of %.30q, life %d: error %d", name, life, err)
				}
			}
		}
	}
}

func TestNewHasNothing(t *testing.T) { // P18.1: an empty book, a clock that is off, no pending nonces, no waits; its name, its key and its life are those that were handed in
	for _, name := range []string{"bob", "b", strings.Repeat("z", 20), "kdc"} {
		for _, key := range []api.Word{{}, word(1), filled(255)} {
			for _, life := range []int64{1, 1000, api.Far} {
				w := watchOf(t, name, key, life)
				w.errs("NS1: the clock is off", w.take("ann", ns1("ann", 1)), api.ErrTime)
				q := sealedAs(key, "nst", word(5), "ann", text(word(6)), number(api.Far))
				w.errs("Again1: the clock is off", w.take("ann", note.Note{Kind: note.Again1, Q: q}), api.ErrTime)
				w.errs("Again1: no generation", w.take("ann", note.Note{Kind: note.Again1, Q: sealedAs(api.Word{}, "kt", word(5), "ann", text(word(6)), number(api.Far), number(0))}), api.ErrSeal)
				for _, n := range []note.Note{ksl5(1), again3(api.NS, 1), again3(api.KSL, 1), {Kind: note.KSL5, P: sealedAs(api.Word{}, "k5", word(5), text(api.Word{}), text(api.Word{}))}} {
					for _, from := range []string{"ann", "", name} {
						w.errs("waits", w.take(from, n), api.ErrState)
					}
				}
				for _, d := range []api.Word{{}, first(1), second(1)} {
					n := note.Note{Kind: note.KSL3, P: sealedAs(key, "k3b", word(5), text(d), "ann", text(word(6)))}
					w.errs("pending", w.take("kdc", n), api.ErrState)
				}
				w.fits("KSL1", w.takeAs("ann", ksl1("ann", 1), at, drawsOf(mark(1), 1)))
				n := note.Note{Kind: note.KSL3, P: sealedAs(key, "k3b", word(5), text(mark(1)), "ann", text(word(6)))}
				w.errs("KSL3: no generation", w.take("kdc", n), api.ErrKey)
				w.books(goodBook())
				w.errs("KSL3: the clock is off", w.take("kdc", n), api.ErrTime)
				w.clock(goodClock())
				w.errs("KSL1 of its own name", w.take("kdc", ksl1(name, 1)), api.ErrArg)
				got := w.fits("NS1", w.takeAs("ann", ns1("ann", 1), at, drawsOf(second(1), 1)))
				opened(t, got.n.P, key, "ns2", word(151), "ann", text(first(1)), number(min(lo+life, api.Far)))
				w.fits("KSL3", w.take("kdc", n))
			}
		}
	}
}

func TestBooks(t *testing.T) { // P18.1: what is revoked, Gen and Own are those of the book that was set last
	w := watch(t)
	ann := again1(api.KSL, "ann", 1)
	revoked := []api.Word{word(7), host.Ticket(ann.Q), word(8)}
	w.fits("not revoked", w.take("ann", ann))
	w.books(book.Book{Revoked: revoked, Gen: gen, Own: word(2)})
	w.errs("revoked", w.take("ann", ann), api.ErrKey)
	w.books(book.Book{Revoked: revoked[2:], Gen: gen, Own: word(2)})
	w.fits("not revoked any more", w.take("ann", ann))
	w.books(book.Book{Gen: gen + 1, Own: word(2)})
	w.errs("another Gen", w.take("ann", ann), api.ErrKey)
	w.books(book.Book{Gen: gen, Own: word(3)})
	w.errs("another Own", w.take("ann", ann), api.ErrSeal)
	w.books(book.Book{})
	w.errs("no Gen", w.take("ann", ann), api.ErrSeal)
	w.begin(api.KSL, "ann", 1)
	w.errs("no Gen", w.take("kdc", ksl3("ann", 1)), api.ErrKey)
	w.books(book.Book{L: []book.Entry{{Name: "ann", Key: word(5)}, {Name: "bob", Key: word(6)}}, Gen: 7, Own: word(9)})
	got := w.fits("KSL3", w.take("kdc", ksl3("ann", 1)))
	q, err := partsAs(word(9), "kt", got.n.Q, 4)
	if err != api.OK || q[3] != number(7) {
		t.Errorf("a ticket of another book: error %d, %q", err, q)
	}
}

func TestBooksAndClockLeaveTheRest(t *testing.T) { // P18.1: what is pending, and what the host waits for, stays
	w := watch(t)
	w.begin(api.NS, "ann", 1)
	w.begin(api.KSL, "ann", 2)
	w.wait("carol", 3)
	w.repeat(api.NS, "carol", 4)
	w.repeat(api.KSL, "carol", 5)
	w.books(book.Book{Gen: 4, Own: word(99)})
	w.clock(clock.Clock{})
	w.clock(clock.Clock{On: true, At: 0, S: api.Span{Lo: -100, Hi: 100}})
	w.fits("NS4", w.take("ann", ns4("ann", 1)))
	w.fits("KSL3", w.take("ann", ksl3("ann", 2)))
	w.fits("KSL5", w.take("carol", ksl5(3)))
	w.fits("Again3", w.take("carol", again3(api.NS, 4)))
	w.fits("Again3", w.take("carol", again3(api.KSL, 5)))
}

func TestClock(t *testing.T) { // P18.1: the time is that of the clock that was set last
	w := watch(t)
	tells := func(c clock.Clock, want int64) {
		t.Helper()
		w.clock(c)
		got := w.fits("NS1", w.take("ann", ns1("ann", 1)))
		f, err := partsAs(word(1), "ns2", got.n.P, 3)
		if err != api.OK || f[2] != number(want+life) {
			t.Errorf("%+v: error %d, %x, want %x", c, err, f, number(want+life))
		}
	}
	tells(goodClock(), lo)
	tells(clock.Clock{On: true, At: 100, S: api.Span{Lo: 7, Hi: 8}}, 7)
	tells(clock.Clock{On: true, At: 90, S: api.Span{Lo: 7, Hi: 8}}, 17)
	tells(clock.Clock{Ppm: 100000, On: true, At: 0, S: api.Span{Lo: 7, Hi: 8}}, 97)
	w.clock(clock.Off(goodClock()))
	w.errs("off", w.take("ann", ns1("ann", 1)), api.ErrTime)
	tells(goodClock(), lo)
}

// unknown is clocks by which the time is not known at the reading.
func unknown() []clock.Clock {
	good := goodClock()
	all := []clock.Clock{{}, {Ppm: 1000}, clock.Off(good)}
	for _, change := range []func(c *clock.Clock){
		func(c *clock.Clock) { c.On = false }, // At and S are as they were
		func(c *clock.Clock) { c.At = at + 1 },
		func(c *clock.Clock) { c.At = api.Far },
		func(c *clock.Clock) { c.At = -1 },
		func(c *clock.Clock) { c.Ppm = -1 },
		func(c *clock.Clock) { c.Ppm = api.MostPpm + 1 },
		func(c *clock.Clock) { c.S = api.Span{Lo: 5, Hi: 4} },
		func(c *clock.Clock) { c.S.Lo = -api.Far - 1 },
		func(c *clock.Clock) { c.S = api.Span{Lo: 0, Hi: api.Far + 1} },
	} {
		c := good
		change(&c)
		all = append(all, c)
	}
	return all
}

func TestForget(t *testing.T) { // P18.1: what fitted pending nonces and waits is ErrState; the book and the clock stay
	w := watch(t)
	dead := ticketNS("dan", 9)
	b := goodBook()
	b.Revoked = []api.Word{host.Ticket(dead)}
	w.books(b)
	for i := range 3 {
		w.begin(api.NS, "ann", 1)
		w.begin(api.KSL, "ann", 2)
		w.wait("carol", 3)
		w.repeat(api.NS, "carol", 4)
		w.repeat(api.KSL, "carol", 5)
		w.forget()
		if i == 1 {
			w.forget()
		}
		for range 2 {
			w.errs("NS4", w.take("ann", ns4("ann", 1)), api.ErrState)
			w.errs("KSL3", w.take("ann", ksl3("ann", 2)), api.ErrState)
			w.errs("KSL5", w.take("carol", ksl5(3)), api.ErrState)
			w.errs("Again3", w.take("carol", again3(api.NS, 4)), api.ErrState)
			w.errs("Again3", w.take("carol", again3(api.KSL, 5)), api.ErrState)
		}
		w.errs("the book", w.take("dan", note.Note{Kind: note.Again1, Q: dead}), api.ErrKey)
		w.repeat(api.NS, "ann", 6) // by the clock
		w.fits("Again3", w.take("ann", again3(api.NS, 6)))
		w.wait("ann", 7) // by the clock, Gen and Own
		w.fits("KSL5", w.take("ann", ksl5(7)))
	}
	for i := range 40 { // there is room again for as many as before
		if i == 20 {
			w.forget()
		}
		w.begin(api.NS, "ann", 20+i)
		w.repeat(api.NS, fmt.Sprint("p", i), 20+i)
	}
	for i := range 40 {
		started := w.take("ann", ns4("ann", 20+i))
		repeated := w.take(fmt.Sprint("p", i), again3(api.NS, 20+i))
		if i < 20 {
			w.errs("NS4", started, api.ErrState)
			w.errs("Again3", repeated, api.ErrState)
		} else {
			w.fits("NS4", started)
			w.fits("Again3", repeated)
		}
	}
}

func TestTicket(t *testing.T) { // P18.1: the first 16 bytes of the digest, of any length; of abc, as the document has it
	abc := host.Ticket([]byte("abc"))
	if !bytes.Equal(abc[:4], []byte{0xba, 0x78, 0x16, 0xbf}) {
		t.Errorf("of abc: %x", abc)
	}
	none := host.Ticket(nil)
	if none != host.Ticket([]byte{}) || none != (api.Word{0xe3, 0xb0, 0xc4, 0x42, 0x98, 0xfc, 0x1c, 0x14, 0x9a, 0xfb, 0xf4, 0xc8, 0x99, 0x6f, 0xb9, 0x24}) {
		t.Errorf("of nothing: %x", none)
	}
	for _, n := range []int{0, 1, 3, 15, 16, 17, 31, 32, 33, 54, 55, 56, 57, 63, 64, 65, 119, 120, 127, 128, 129, 499, 500, 501, 1000, 4096, 100000} {
		b := sample(n)
		digest := sha256.Sum256(b)
		if got := host.Ticket(b); !bytes.Equal(got[:], digest[:16]) {
			t.Errorf("of %d bytes: %x, want %x", n, got, digest[:16])
		}
		if !bytes.Equal(b, sample(n)) {
			t.Errorf("%d bytes were changed", n)
		}
	}
}
