package host_test

import (
	"bytes"
	"fmt"
	"math"
	"slices"
	"strings"
	"testing"

	"bartizan/api"
	"bartizan/book"
	"bartizan/clock"
	"bartizan/host"
	"bartizan/kdc"
	"bartizan/note"
)

// way is one of the good ways: the calls in front of a Take, and the Take with its first draw.
type way struct {
	what   string
	before func(w *watched, peer string, i int)
	good   func(peer string, i int) note.Note
	draw   func(i int) api.Word
}

// Places in ways.
const (
	onNS1 = iota
	onNS4
	onKSL1
	onKSL3
	onKSL5
	onAgain1NS
	onAgain1KSL
	onAgain3NS
	onAgain3KSL
)

func ways() []way {
	nothing := func(w *watched, peer string, i int) {}
	return []way{
		{"NS1", nothing, ns1, second},
		{"NS4", func(w *watched, peer string, i int) { w.begin(api.NS, peer, i) }, ns4, key},
		{"KSL1", nothing, ksl1, mark},
		{"KSL3", func(w *watched, peer string, i int) { w.begin(api.KSL, peer, i) }, ksl3, second},
		{"KSL5", func(w *watched, peer string, i int) { w.wait(peer, i) }, func(peer string, i int) note.Note { return ksl5(i) }, key},
		{"Again1 of NS", nothing, func(peer string, i int) note.Note { return again1(api.NS, peer, i) }, second},
		{"Again1 of KSL", nothing, func(peer string, i int) note.Note { return again1(api.KSL, peer, i) }, second},
		{"Again3 of NS", func(w *watched, peer string, i int) { w.repeat(api.NS, peer, i) }, func(peer string, i int) note.Note { return again3(api.NS, i) }, key},
		{"Again3 of KSL", func(w *watched, peer string, i int) { w.repeat(api.KSL, peer, i) }, func(peer string, i int) note.Note { return again3(api.KSL, i) }, key},
	}
}

// ready is a host for which a way's good note of ann's exchange 1 is good.
func (y way) ready(t *testing.T) *watched {
	t.Helper()
	w := watch(t)
	y.before(w, "ann", 1)
	return w
}

// takeWay takes a way's good note of a peer's exchange.
func (w *watched) takeWay(y way, from, peer string, i int) answer {
	w.t.Helper()
	return w.takeAs(from, y.good(peer, i), at, drawsOf(y.draw(i), i))
}

// by is notes that may count if the words are nonces of an exchange, and its key.
func by(peer string, n, d, k api.Word) []note.Note {
	both := []string{text(n), text(d)}
	return []note.Note{
		{Kind: note.NS4, Q: sealedAs(word(1), "nst", d, peer, text(k), number(api.Far)), P: sealedAs(k, "ns4", d, both...)},
		{Kind: note.KSL5, P: sealedAs(k, "k5", d, both...)},
		{Kind: note.Again3, P: sealedAs(k, "a3ns", d, both...)},
		{Kind: note.Again3, P: sealedAs(k, "a3ksl", d, both...)},
		{Kind: note.KSL3, P: sealedAs(word(1), "k3b", d, text(d), peer, text(k))},
	}
}

// after is what is done behind refused Takes, to see that the host does as it would without them: all that may fit is taken, also by the draws of the last one.
func (w *watched) after() {
	w.t.Helper()
	w.books(goodBook())
	w.clock(goodClock())
	if len(w.lost) > 0 {
		last := w.lost[len(w.lost)-1]
		for _, x := range []api.Word{last.n.X, first(1)} {
			for _, n := range by("ann", x, last.draws[0], key(1)) {
				w.take("ann", n)
			}
		}
	}
	for _, place := range []int{onNS4, onKSL5, onAgain3NS, onAgain3KSL, onKSL3, onNS1, onKSL1, onAgain1KSL, onAgain1NS, onNS4, onKSL3, onKSL5, onAgain3KSL, onAgain3NS} {
		for _, peer := range []string{"ann", "carol"} {
			for i := 1; i < 3; i++ {
				w.takeWay(ways()[place], peer, peer, i)
			}
		}
	}
}

// opened: b was made with a key, a label and a draw, of these fields.
func opened(t *testing.T, b []byte, key api.Word, label string, draw api.Word, want ...string) {
	t.Helper()
	if len(b) < 16 || api.Word(b[:16]) != draw {
		t.Errorf("%s: not with the draw: %x", label, b)
	}
	var texts []string
	parts, err := kdc.Parts(key, label, b, len(want))
	for _, part := range parts {
		texts = append(texts, string(part))
	}
	if err != api.OK || !slices.Equal(texts, want) {
		t.Errorf("%s: error %d and %q, want %q", label, err, texts, want)
	}
}

// does: the reply goes to a recipient, and is a note; these are the events.
func does(t *testing.T, got answer, to string, n note.Note, events ...api.Event) {
	t.Helper()
	if got.err != api.OK || got.to != to || told(got.n) != told(n) || !slices.Equal(got.events, events) {
		t.Errorf("%s,\nwant to %q %s %+v", got.told(), to, told(n), events)
	}
}

// event is one of bob's, with ann, in exchange 1.
func event(kind, protocol, phase int) api.Event {
	return api.Event{Kind: kind, Protocol: protocol, Phase: phase, Who: "bob", Peer: "ann", First: first(1), Second: second(1), Key: key(1)}
}

// The places at which it does not count who has sent the note.
func anybody() []string { return []string{"ann", "bob", "kdc", "carol", "", "Ann"} }

func TestNS1(t *testing.T) { // P18.2: the recipient, each field of the NS2, no events; D0 is pending
	for _, from := range anybody() {
		w := watch(t)
		got := w.takeWay(ways()[onNS1], from, "ann", 1)
		opened(t, got.n.P, word(1), "ns2", word(151), "ann", text(first(1)), number(lo+life))
		does(t, got, "kdc", note.Note{Kind: note.NS2, B: "bob", P: got.n.P, Y: second(1)})
		w.errs("KSL3 for it", w.take("kdc", note.Note{Kind: note.KSL3, P: sealedAs(word(1), "k3b", word(5), text(second(1)), "ann", text(key(1)))}), api.ErrState)
		w.fits("NS4", w.take("ann", ns4("ann", 1)))
	}
}

func TestNS4(t *testing.T) { // P18.2: the recipient, each field of the NS5, both events in their order; the nonce is not pending any more
	for _, from := range anybody() {
		w := ways()[onNS4].ready(t)
		got := w.takeAs(from, ns4("ann", 1), at, drawsOf(word(77), 1))
		opened(t, got.n.P, key(1), "ns5", word(77), both(1)...)
		does(t, got, "ann", note.Note{Kind: note.NS5, P: got.n.P}, event(api.Running, api.NS, api.Initial), event(api.Commit, api.NS, api.Initial))
		w.errs("NS4 again", w.take(from, ns4("ann", 1)), api.ErrState)
		for _, n := range by("ann", first(1), second(1), key(1)) {
			w.errs("behind NS4", w.take("ann", n), api.ErrState)
		}
	}
}

func TestKSL1(t *testing.T) { // P18.2: the recipient, each field of the KSL2, no events; D0 is pending; the time does not count, nor does the book
	for i, from := range anybody() {
		w := watch(t)
		if i%2 == 1 {
			w.clock(clock.Clock{})
			w.books(book.Book{})
		}
		got := w.takeWay(ways()[onKSL1], from, "ann", 1)
		does(t, got, "kdc", note.Note{Kind: note.KSL2, A: "ann", X: first(1), B: "bob", Y: mark(1)})
		w.books(goodBook())
		w.clock(goodClock())
		w.errs("NS4 for it", w.take("ann", by("ann", first(1), mark(1), key(1))[0]), api.ErrState)
		w.fits("KSL3", w.take("kdc", ksl3("ann", 1)))
	}
}

func TestKSL3(t *testing.T) { // P18.2: the recipient, each field of the KSL4, the event; M is not pending any more, and the host waits
	for i, from := range anybody() {
		w := ways()[onKSL3].ready(t)
		n := ksl3("ann", 1)
		n.Q = sample(100 * i) // it is passed on, whatever it is
		got := w.takeAs(from, n, at, drawsOf(second(1), 1))
		opened(t, got.n.Q, word(2), "kt", word(151), "ann", text(key(1)), number(lo+life), number(gen))
		opened(t, got.n.R, key(1), "k4", word(152), both(1)...)
		does(t, got, "ann", note.Note{Kind: note.KSL4, P: n.Q, Q: got.n.Q, R: got.n.R, Y: second(1)}, event(api.Running, api.KSL, api.Initial))
		w.errs("KSL3 again", w.take(from, n), api.ErrState)
		w.errs("Again3", w.take("ann", again3(api.KSL, 1)), api.ErrState)
		w.errs("KSL5 of another", w.take("carol", ksl5(1)), api.ErrState)
		w.fits("KSL5", w.take("ann", ksl5(1)))
		w.fits("Again1 by the new ticket", w.take("ann", note.Note{Kind: note.Again1, Q: got.n.Q, X: first(2)}))
	}
}

func TestKSL5(t *testing.T) { // P18.2: no reply; the event; the host does not wait any more; the time and the book do not count
	for _, change := range []func(w *watched){func(w *watched) {}, func(w *watched) { w.clock(clock.Clock{}) }, func(w *watched) { w.books(book.Book{}) }} {
		w := ways()[onKSL5].ready(t)
		change(w)
		does(t, w.take("ann", ksl5(1)), "", note.Note{}, event(api.Commit, api.KSL, api.Initial))
		w.errs("KSL5 again", w.take("ann", ksl5(1)), api.ErrState)
		for _, n := range by("ann", first(1), second(1), key(1))[1:] {
			w.errs("behind KSL5", w.take("ann", n), api.ErrState)
		}
	}
}

func TestAgain1(t *testing.T) { // P18.2: the recipient, each field of the Again2, the event, and what the host waits for, with tickets of both protocols
	for protocol, label := range map[int]string{api.NS: "a2ns", api.KSL: "a2ksl"} {
		for _, from := range anybody() {
			for gens := range 2 {
				w := watch(t)
				if gens == 0 && protocol == api.NS { // a host without a key of its own takes tickets of NS
					w.books(book.Book{})
				}
				got := w.takeAs(from, again1(protocol, "ann", 1), at, drawsOf(second(1), 1))
				opened(t, got.n.P, key(1), label, word(151), both(1)...)
				does(t, got, "ann", note.Note{Kind: note.Again2, P: got.n.P, Y: second(1)}, event(api.Running, protocol, api.Repeat))
				w.errs("KSL5", w.take("ann", ksl5(1)), api.ErrState)
				w.errs("Again3 of the other", w.take("ann", again3(3-protocol, 1)), api.ErrState)
				w.errs("Again3 from another", w.take("carol", again3(protocol, 1)), api.ErrState)
				w.fits("Again3", w.take("ann", again3(protocol, 1)))
				w.fits("Again1 by the same ticket", w.takeAs(from, again1(protocol, "ann", 1), at, drawsOf(second(2), 1)))
			}
		}
	}
}

func TestAgain3(t *testing.T) { // P18.2: no reply; the event; the host does not wait any more; the time and the book do not count
	for _, protocol := range []int{api.NS, api.KSL} {
		for _, change := range []func(w *watched){func(w *watched) {}, func(w *watched) { w.clock(clock.Clock{}) }, func(w *watched) { w.books(book.Book{}) }} {
			w := watch(t)
			w.repeat(protocol, "ann", 1)
			change(w)
			does(t, w.take("ann", again3(protocol, 1)), "", note.Note{}, event(api.Commit, protocol, api.Repeat))
			for _, n := range by("ann", first(1), second(1), key(1))[1:] {
				w.errs("behind Again3", w.take("ann", n), api.ErrState)
			}
		}
	}
}

func TestAgain3OfBoth(t *testing.T) { // P18.2: where there are waits of both protocols, also with one key and the same nonces, each is ended by its own Again3
	for _, protocol := range []int{api.NS, api.KSL} {
		for _, i := range []int{1, 2} {
			w := watch(t)
			w.repeat(api.NS, "ann", 1)
			w.repeat(api.KSL, "ann", i)
			of := map[int]int{api.NS: 1, api.KSL: i}
			for _, wrong := range []note.Note{again3(protocol, 3), {Kind: note.Again3}, {Kind: note.Again3, P: sealedAs(key(1), "a3", word(5), both(1)...)}} {
				w.errs("neither", w.take("ann", wrong), api.ErrState)
			}
			e := w.fits("one", w.take("ann", again3(protocol, of[protocol]))).events[0]
			if e.Protocol != protocol {
				t.Errorf("a commit of %d, want %d", e.Protocol, protocol)
			}
			w.errs("the same again", w.take("ann", again3(protocol, of[protocol])), api.ErrState)
			w.fits("the other", w.take("ann", again3(3-protocol, of[3-protocol])))
			w.after()
		}
	}
	w := watch(t) // the Initial of KSL is another wait
	w.repeat(api.NS, "ann", 1)
	w.repeat(api.KSL, "ann", 2)
	w.wait("ann", 3)
	w.fits("KSL5", w.take("ann", ksl5(3)))
	w.fits("Again3", w.take("ann", again3(api.KSL, 2)))
	w.fits("Again3", w.take("ann", again3(api.NS, 1)))
}

func TestWordsOfAllKinds(t *testing.T) { // P18.2: nonces, keys and draws of any kind
	words := []api.Word{{}, filled(255), {15: 1}, {1}}
	for i, n := range words {
		for j, d := range words {
			k, hostKey, own := words[(i+j)%4], words[(i+2*j)%4], words[(2*i+j)%4]
			w := watchOf(t, "bob", hostKey, life)
			w.books(book.Book{Gen: 1<<31 - 1, Own: own})
			w.clock(goodClock())
			draws := [4]api.Word{d, words[(i+1)%4], words[(j+1)%4], words[(i+3)%4]}
			w.fits("NS1", w.takeAs("ann", note.Note{Kind: note.NS1, A: "ann", X: n}, at, draws))
			q := sealedAs(hostKey, "nst", n, "ann", text(k), number(api.Far))
			w.fits("NS4", w.takeAs("ann", note.Note{Kind: note.NS4, Q: q, P: sealedAs(k, "ns4", d, text(n), text(d))}, at, draws))
			w.fits("Again1", w.takeAs("ann", note.Note{Kind: note.Again1, Q: q, X: n}, at, draws))
			w.fits("Again3", w.takeAs("ann", note.Note{Kind: note.Again3, P: sealedAs(k, "a3ns", d, text(n), text(d))}, at, draws))
			w.fits("KSL1", w.takeAs("ann", note.Note{Kind: note.KSL1, A: "ann", X: n}, at, draws))
			got := w.fits("KSL3", w.takeAs("ann", note.Note{Kind: note.KSL3, P: sealedAs(hostKey, "k3b", d, text(d), "ann", text(k))}, at, draws))
			w.fits("KSL5", w.takeAs("ann", note.Note{Kind: note.KSL5, P: sealedAs(k, "k5", d, text(n), text(d))}, at, draws))
			w.fits("Again1", w.takeAs("ann", note.Note{Kind: note.Again1, Q: got.n.Q, X: n}, at, draws))
			w.fits("Again3", w.takeAs("ann", note.Note{Kind: note.Again3, P: sealedAs(k, "a3ksl", d, text(n), text(d))}, at, draws))
		}
	}
}

func TestOwnName(t *testing.T) { // P18.2: ErrArg for an NS1 and a KSL1 of the host's own name, not for one like it
	for _, y := range []way{ways()[onNS1], ways()[onKSL1]} {
		w := watch(t)
		w.errs(y.what, w.takeWay(y, "ann", "bob", 1), api.ErrArg)
		w.errs("what could fit it", w.take("ann", by("bob", first(1), second(1), key(1))[0]), api.ErrState)
		w.errs("what could fit it", w.take("ann", ksl3("bob", 1)), api.ErrState)
		for _, name := range []string{"bo", "bobb", "b", "0bob", "kdc", strings.Repeat("bob", 6)} {
			w.fits(y.what, w.takeWay(y, "bob", name, 1))
		}
		w.after()
	}
}

func TestExpiryOfNewTickets(t *testing.T) { // P18.2: the Lo of the time plus the life, but at most Far, in NS2 and in a ticket of KSL
	for _, c := range []struct{ lo, life, want int64 }{
		{0, 1, 1}, {0, api.Far, api.Far}, {1, api.Far, api.Far}, {-1, api.Far, api.Far - 1}, {5000, 1000, 6000}, {-5000, 1000, -4000},
		{api.Far, 1, api.Far}, {api.Far, api.Far, api.Far}, {api.Far - 1, 1, api.Far}, {api.Far - 2, 1, api.Far - 1}, {api.Far - 1, 2, api.Far},
		{-api.Far, 1, 1 - api.Far}, {-api.Far, api.Far, 0}, {api.Far - 1000, 999, api.Far - 1}, {api.Far - 1000, 1000, api.Far}, {api.Far - 1000, 1001, api.Far},
	} {
		w := watchOf(t, "bob", word(1), c.life)
		w.books(goodBook())
		w.clock(clock.Clock{Ppm: 5, On: true, At: at, S: api.Span{Lo: c.lo, Hi: api.Far}})
		got := w.begin(api.NS, "ann", 1)
		opened(t, got.n.P, word(1), "ns2", word(151), "ann", text(first(1)), number(c.want))
		got = w.wait("ann", 1)
		opened(t, got.n.Q, word(2), "kt", word(151), "ann", text(key(1)), number(c.want), number(gen))
	}
}

// ticketed is the ways that check a ticket; the time counts for these, and for NS1 and KSL3.
func ticketed() []int { return []int{onNS4, onAgain1NS, onAgain1KSL} }
func timed() []int    { return append(ticketed(), onNS1, onKSL3) }

// due is a way's good note with a ticket of another expiry.
func due(place int, expiry int64) note.Note {
	n := ways()[place].good("ann", 1)
	if place == onAgain1KSL {
		n.Q = sealedAs(word(2), "kt", word(51), "ann", text(key(1)), number(expiry), number(gen))
	} else {
		n.Q = sealedAs(word(1), "nst", word(50), "ann", text(key(1)), number(expiry))
	}
	return n
}

func TestLate(t *testing.T) { // P18.2: ErrLate if the Hi of the time is greater than the expiry: one before it, at it, one behind it
	for _, place := range ticketed() {
		for expiry, want := range map[int64]api.Errno{
			hi - 1: api.ErrLate, hi: api.OK, hi + 1: api.OK, lo - 1: api.ErrLate, lo: api.ErrLate, lo + 1: api.ErrLate,
			0: api.ErrLate, -1: api.ErrLate, api.Far: api.OK, -api.Far: api.ErrLate, math.MaxInt64: api.OK, math.MinInt64: api.ErrLate,
		} {
			w := ways()[place].ready(t)
			got := w.take("ann", due(place, expiry))
			if want == api.OK {
				w.fits(ways()[place].what, got)
			} else {
				w.errs(ways()[place].what, got, want)
			}
			w.after()
		}
		w := watch(t)
		w.clock(clock.Clock{On: true, At: at, S: api.Span{Lo: -100, Hi: api.Far}})
		ways()[place].before(w, "ann", 1)
		w.errs("before Far", w.take("ann", due(place, api.Far-1)), api.ErrLate)
		w.fits("Far", w.take("ann", due(place, api.Far)))
		w = watch(t)
		w.clock(clock.Clock{On: true, At: at, S: api.Span{Lo: -100, Hi: -50}})
		ways()[place].before(w, "ann", 1)
		w.errs("before zero", w.take("ann", due(place, -51)), api.ErrLate)
		w.fits("before zero", w.take("ann", due(place, -50)))
	}
}

func TestTicketsGetOld(t *testing.T) { // P18.2: a ticket is checked by the time at the reading of the Take
	for _, place := range ticketed() {
		for _, c := range []struct {
			reading int64
			err     api.Errno
		}{{60, api.OK}, {at, api.OK}, {1048, api.OK}, {1049, api.ErrLate}, {2000, api.ErrLate}, {59, api.ErrTime}, {0, api.ErrTime}, {-1, api.ErrTime}, {api.Far, api.ErrLate}, {api.Far + 1, api.ErrTime}, {math.MaxInt64, api.ErrTime}, {math.MinInt64, api.ErrTime}} {
			w := ways()[place].ready(t) // 5010 + 988 + 1 is 5999, which is not later than 6000; 1049 gives 6000
			n := due(place, 5999)
			got := w.takeAs("ann", n, c.reading, w.newDraws())
			if got.err != c.err {
				t.Errorf("%s at %d: error %d, want %d", ways()[place].what, c.reading, got.err, c.err)
			}
			w.after()
		}
	}
}

func TestUnknownTime(t *testing.T) { // P18.2: ErrTime for a clock that is off or not valid, and for readings before the last Set or out of range
	for _, place := range timed() {
		y := ways()[place]
		for _, c := range unknown() {
			w := y.ready(t)
			w.clock(c)
			w.errs(y.what, w.takeWay(y, "ann", "ann", 1), api.ErrTime)
			w.clock(goodClock())
			w.fits(y.what+" when the time is known", w.takeWay(y, "ann", "ann", 1))
			w.after()
		}
		for _, reading := range []int64{59, 0, -1, api.Far + 1, math.MaxInt64, math.MinInt64} {
			w := y.ready(t)
			w.errs(y.what, w.takeAs("ann", y.good("ann", 1), reading, drawsOf(y.draw(1), 1)), api.ErrTime)
			w.fits(y.what, w.takeAs("ann", y.good("ann", 1), 60, drawsOf(y.draw(1), 1)))
			w.after()
		}
	}
	for _, place := range []int{onKSL1, onKSL5, onAgain3NS, onAgain3KSL} { // these do not ask what time it is
		y := ways()[place]
		for _, c := range unknown() {
			w := y.ready(t)
			w.clock(c)
			w.fits(y.what, w.takeWay(y, "ann", "ann", 1))
		}
	}
}

func TestRevoked(t *testing.T) { // P18.2: ErrKey for the word of the ticket, wherever it stands in the book, and for no other
	for _, place := range ticketed() {
		y := ways()[place]
		good := y.good("ann", 1)
		dead := host.Ticket(good.Q)
		for _, revoked := range [][]api.Word{{dead}, {word(5), dead}, {dead, word(5)}, append(make([]api.Word, 199), dead), {dead, dead}} {
			w := y.ready(t)
			w.books(book.Book{Revoked: revoked, Gen: gen, Own: word(2)})
			w.errs(y.what, w.takeWay(y, "ann", "ann", 1), api.ErrKey)
			w.after()
		}
		near := []api.Word{{}, key(1), first(1), second(1), host.Ticket(nil), host.Ticket(good.P), host.Ticket(good.Q[1:]), host.Ticket(ticketNS("carol", 1)), host.Ticket(ticketKSL("ann", 2)), api.Word(good.Q[:16])}
		for bit := range 128 {
			other := dead
			other[bit/8] ^= 1 << (bit % 8)
			near = append(near, other)
		}
		w := y.ready(t)
		w.books(book.Book{Revoked: near, Gen: gen, Own: word(2)})
		w.fits(y.what+" with others revoked", w.takeWay(y, "ann", "ann", 1))
	}
}

func TestGenerations(t *testing.T) { // P18.2: KSL3 needs a Gen that is not 0, a ticket of KSL the Gen of the book; tickets of NS need none
	for _, has := range []int{0, 1, 2, 3, 256 + 3, 1<<31 - 1, -1, -3, math.MaxInt, math.MinInt} {
		w := watch(t)
		w.books(book.Book{Gen: has, Own: word(2)})
		w.begin(api.KSL, "ann", 1)
		got := w.takeWay(ways()[onKSL3], "kdc", "ann", 1)
		if has == 0 {
			w.errs("KSL3", got, api.ErrKey)
		} else {
			w.fits("KSL3", got)
			opened(t, got.n.Q, word(2), "kt", word(151), "ann", text(key(1)), number(lo+life), number(int64(has)))
		}
		w.fits("a ticket of NS", w.take("ann", again1(api.NS, "ann", 1)))
		for _, in := range []int64{0, 1, 2, 3, 256 + 3, 1<<31 - 1, 1<<32 + 3, -1, -3, math.MaxInt64, math.MinInt64} {
			q := sealedAs(word(2), "kt", word(51), "ann", text(key(1)), number(expiry), number(in))
			got := w.take("ann", note.Note{Kind: note.Again1, Q: q, X: first(1)})
			switch {
			case has <= 0:
				w.errs("a ticket of KSL, with no Gen", got, api.ErrSeal)
			case int64(has) != in:
				w.errs(fmt.Sprintf("a ticket of Gen %d, with %d", in, has), got, api.ErrKey)
			default:
				w.fits("a ticket of KSL", got)
			}
		}
		w.after()
	}
}

// sealing is the fields that are sealed in a good note's P, or Q, with the key and the label that they are sealed with, and the errors of other seals, other numbers of fields, other forms.
type sealing struct {
	place                                int
	inQ                                  bool
	key                                  api.Word
	label                                string
	texts                                []string
	short, unsealed, uncounted, unformed api.Errno
}

func sealings() []sealing {
	ofNS := []string{"ann", text(key(1)), number(expiry)}
	ofKSL := append(slices.Clone(ofNS), number(gen))
	return []sealing{
		{onNS4, true, word(1), "nst", ofNS, api.ErrShort, api.ErrSeal, api.ErrForm, api.ErrForm},
		{onNS4, false, key(1), "ns4", both(1), api.ErrShort, api.ErrSeal, api.ErrForm, api.ErrState},
		{onKSL3, false, word(1), "k3b", []string{text(mark(1)), "ann", text(key(1))}, api.ErrShort, api.ErrSeal, api.ErrForm, api.ErrForm},
		{onKSL5, false, key(1), "k5", both(1), api.ErrShort, api.ErrSeal, api.ErrForm, api.ErrState},
		{onAgain1NS, true, word(1), "nst", ofNS, api.ErrSeal, api.ErrSeal, api.ErrSeal, api.ErrForm},
		{onAgain1KSL, true, word(2), "kt", ofKSL, api.ErrSeal, api.ErrSeal, api.ErrSeal, api.ErrForm},
		{onAgain3NS, false, key(1), "a3ns", both(1), api.ErrState, api.ErrState, api.ErrState, api.ErrState},
		{onAgain3KSL, false, key(1), "a3ksl", both(1), api.ErrState, api.ErrState, api.ErrState, api.ErrState},
	}
}

func (s sealing) what() string { return ways()[s.place].what + ", " + s.label }

func (s sealing) ready(t *testing.T) *watched {
	t.Helper()
	return ways()[s.place].ready(t)
}

// with is the good note with other bytes.
func (s sealing) with(b []byte) note.Note {
	n := ways()[s.place].good("ann", 1)
	if s.inQ {
		n.Q = b
	} else {
		n.P = b
	}
	return n
}

// of is the good note with other fields.
func (s sealing) of(texts ...string) note.Note {
	return s.with(sealedAs(s.key, s.label, word(77), texts...))
}

func TestGoodFields(t *testing.T) { // what the tests below change is good before
	for _, s := range sealings() {
		w := s.ready(t)
		w.fits(s.what(), w.take("ann", s.of(s.texts...)))
	}
}

func TestWrongSeals(t *testing.T) { // P18.2: the errors of opening: each prefix, each bit, too many bytes
	for _, s := range sealings() {
		w := s.ready(t)
		whole := sealedAs(s.key, s.label, word(77), s.texts...)
		for i := range whole {
			want := s.unsealed
			if i < 48 {
				want = s.short
			}
			w.errs(s.what()+": a prefix", w.take("ann", s.with(whole[:i])), want)
		}
		for bit := range 8 * len(whole) {
			b := bytes.Clone(whole)
			b[bit/8] ^= 1 << (bit % 8)
			w.errs(s.what()+": a bit turned", w.take("ann", s.with(b)), s.unsealed)
		}
		w.errs(s.what()+": nil", w.take("ann", s.with(nil)), s.short)
		w.errs(s.what()+": a byte more", w.take("ann", s.with(append(bytes.Clone(whole), 0))), s.unsealed)
		w.errs(s.what()+": a byte in front", w.take("ann", s.with(append([]byte{0}, whole...))), s.unsealed)
		w.errs(s.what()+": 500 bytes", w.take("ann", s.with(sample(500))), s.unsealed)
		w.after()
		w = s.ready(t)
		for i := range 48 {
			w.errs(s.what()+": few bytes", w.take("ann", s.with(sample(i))), s.short)
		}
		w.fits(s.what()+" behind all of that", w.take("ann", s.with(whole)))
	}
}

func TestOtherKeysAndLabels(t *testing.T) { // P18.2: the error of another seal, with whatever fields, those of wrong forms and wrong nonces too
	labels := []string{"ns1", "ns2", "ns3", "ns4", "ns5", "nst", "kt", "k3a", "k3b", "k4", "k5", "a2ns", "a2ksl", "a3ns", "a3ksl", "a3", "NST", "kt "}
	for _, s := range sealings() {
		w := s.ready(t)
		refuse := func(k api.Word, label string, texts []string) {
			t.Helper()
			w.errs(s.what()+" for "+label, w.take("ann", s.with(sealedAs(k, label, word(77), texts...))), s.unsealed)
		}
		for _, texts := range [][]string{s.texts, nil, {""}, {"a", "b"}, slices.Repeat([]string{text(first(2))}, len(s.texts))} {
			for _, label := range labels {
				if label != s.label {
					refuse(s.key, label, texts)
				}
			}
			for _, k := range []api.Word{{}, word(1), word(2), word(3), key(1), key(2), first(1), second(1)} {
				if k != s.key {
					refuse(k, s.label, texts)
				}
			}
			for bit := range 128 {
				k := s.key
				k[bit/8] ^= 1 << (bit % 8)
				refuse(k, s.label, texts)
			}
		}
		w.after()
	}
}

func TestOtherNumbersOfFields(t *testing.T) { // P18.2: one field more, one less, and what is no fields
	for _, s := range sealings() {
		w := s.ready(t)
		for many := range 21 {
			lists := [][]string{slices.Repeat(s.texts, 11)[:many], slices.Repeat([]string{""}, many)}
			if many > len(s.texts) {
				lists = append(lists, append(slices.Repeat([]string{""}, many-len(s.texts)), s.texts...))
			}
			for _, texts := range lists {
				if many != len(s.texts) && len(encoded(texts...)) <= 452 {
					w.errs(s.what()+" of other fields", w.take("ann", s.of(texts...)), s.uncounted)
				}
			}
		}
		all := encoded(s.texts...)
		for _, plain := range []string{"\x00", all + "\x00", all + "\x00\x00", all[:len(all)-1], all[1:], "\x01\xf5" + all, strings.Repeat("\xff", 100), strings.Repeat("\x00", 42), strings.Repeat("\x00", 40)} {
			w.errs(s.what()+" of no fields", w.take("ann", s.with(locked(s.key, s.label, word(77), plain))), s.uncounted)
		}
		w.after()
	}
}

func TestTicketOfTheOtherForm(t *testing.T) { // P18.2: the fields of a ticket of one protocol, sealed as one of the other
	w := watch(t)
	w.begin(api.NS, "ann", 1)
	ofKSL := sealings()[5].texts
	for i, want := range map[int]api.Errno{0: api.ErrForm, 4: api.ErrSeal} {
		s := sealings()[i]
		w.errs(s.what(), w.take("ann", s.of(ofKSL...)), want)
	}
	s := sealings()[5]
	w.errs(s.what(), w.take("ann", s.of(ofKSL[:3]...)), api.ErrSeal)
	w.errs("NS4 with a ticket of KSL", w.take("ann", sealings()[0].with(ticketKSL("ann", 1))), api.ErrSeal)
	w.books(book.Book{Gen: gen, Own: word(1)}) // one key for both: the labels tell
	w.fits("NS", w.take("ann", again1(api.NS, "ann", 1)))
	w.fits("KSL", w.take("ann", note.Note{Kind: note.Again1, Q: sealedAs(word(1), "kt", word(5), ofKSL...)}))
	w.errs("NS4", w.take("ann", sealings()[0].with(sealedAs(word(1), "kt", word(5), ofKSL...))), api.ErrSeal)
	w.after()
}

// notWords is fields that are not 16 bytes, made of one that is.
func notWords(w string) []string {
	return []string{"", w[:15], w[1:], w + "\x00", "\x00" + w, w + w, w[:8], "a", w + string(sample(240)), w + "a"}
}

func notNumbers(n string) []string {
	return []string{"", n[:7], n[1:], n + "\x00", "\x00" + n, n + n, "1", n + string(sample(256))}
}

// notLike is fields that are not of the form of one.
func notLike(old string) []string {
	switch len(old) {
	case 8:
		return notNumbers(old)
	case 16:
		return notWords(old)
	}
	names := []string{"ann\x00", "ANN", old + strings.Repeat("b", 18), "kdc/ann"}
	for _, name := range notNames() {
		if len(name) < 300 {
			names = append(names, name)
		}
	}
	for c := range 256 {
		if name := "an" + string([]byte{byte(c)}); !isName(name) {
			names = append(names, name)
		}
	}
	return names
}

func TestFieldsOfOtherForms(t *testing.T) { // P18.2: ErrForm for what is not a name, a word or a number in tickets and KSL3's P, also with nothing begun; ErrState for nonces that are no words
	for _, s := range sealings() {
		for _, ready := range []func() *watched{func() *watched { return s.ready(t) }, func() *watched { return watch(t) }} {
			w := ready()
			for place, old := range s.texts {
				for _, other := range notLike(old) {
					texts := slices.Clone(s.texts)
					texts[place] = other
					w.errs(s.what(), w.take("ann", s.of(texts...)), s.unformed)
				}
			}
			for place := range len(s.texts) - 1 {
				texts := slices.Clone(s.texts)
				texts[place], texts[place+1] = texts[place+1], texts[place]
				if len(texts[place]) != len(texts[place+1]) {
					w.errs(s.what()+" in another order", w.take("ann", s.of(texts...)), s.unformed)
				}
			}
			w.after()
		}
	}
}

func TestOtherNonces(t *testing.T) { // P18.2: ErrState for other nonces in what was opened
	for _, s := range sealings() {
		if len(s.texts) != 2 {
			continue
		}
		w := s.ready(t)
		refuse := func(texts ...string) {
			t.Helper()
			w.errs(s.what(), w.take("ann", s.of(texts...)), api.ErrState)
		}
		n, d := s.texts[0], s.texts[1]
		for bit := range 128 {
			otherN, otherD := first(1), second(1)
			otherN[bit/8] ^= 1 << (bit % 8)
			otherD[bit/8] ^= 1 << (bit % 8)
			refuse(text(otherN), d)
			refuse(n, text(otherD))
			refuse(text(otherN), text(otherD))
		}
		for _, other := range []string{text(api.Word{}), text(first(9)), text(second(9)), text(mark(1)), text(key(1))} {
			refuse(other, d)
			refuse(n, other)
		}
		refuse(d, n)
		refuse(n, n)
		refuse(d, d)
		refuse("", "")
		w.after()
	}
}

func TestZeroNonces(t *testing.T) { // P18.2: fields that are no words are not taken for the zero word
	var none api.Word
	zero := text(none)
	w := watch(t)
	w.takeAs("ann", note.Note{Kind: note.NS1, A: "ann"}, at, [4]api.Word{})
	w.repeat(api.NS, "ann", 1)
	for _, texts := range [][]string{{"", ""}, {"", zero}, {zero, ""}, {"a", zero}, {zero, zero + "\x00"}, {zero[1:], zero}} {
		w.errs("NS4", w.take("ann", note.Note{Kind: note.NS4, Q: ticketNS("ann", 1), P: sealedAs(key(1), "ns4", none, texts...)}), api.ErrState)
	}
	w.fits("NS4", w.take("ann", note.Note{Kind: note.NS4, Q: ticketNS("ann", 1), P: sealedAs(key(1), "ns4", none, zero, zero)}))
	for _, protocol := range []int{api.NS, api.KSL} {
		label := []string{"", "a3ns", "a3ksl"}[protocol]
		w.takeAs("ann", note.Note{Kind: note.Again1, Q: ticketOf(protocol, "ann", 1)}, at, [4]api.Word{})
		for _, texts := range [][]string{{"", ""}, {"", zero}, {zero, ""}, {"a", zero}, {zero, zero + "\x00"}, {zero[1:], zero}} {
			w.errs("Again3", w.take("ann", note.Note{Kind: note.Again3, P: sealedAs(key(1), label, none, texts...)}), api.ErrState)
		}
		w.fits("Again3", w.take("ann", note.Note{Kind: note.Again3, P: sealedAs(key(1), label, none, zero, zero)}))
	}
	for _, n := range by("ann", none, none, none) { // nothing pending is not the zero nonce
		w.errs("nothing", w.take("ann", n), api.ErrState)
	}
}

func TestPendingForAnother(t *testing.T) { // P18.2: ErrState where the nonce is pending for another initiator, another nonce of its, another protocol, or not at all
	for _, c := range []struct {
		what   string
		before func(w *watched)
	}{
		{"nothing", func(w *watched) {}},
		{"another initiator", func(w *watched) { w.takeAs("ann", ns1("carol", 1), at, drawsOf(second(1), 1)) }},
		{"another initiator's KSL", func(w *watched) { w.takeAs("ann", ksl1("carol", 1), at, drawsOf(mark(1), 1)) }},
		{"another protocol", func(w *watched) { w.takeAs("ann", ksl1("ann", 1), at, drawsOf(second(1), 1)) }},
		{"another protocol for KSL", func(w *watched) { w.takeAs("ann", ns1("ann", 1), at, drawsOf(mark(1), 1)) }},
		{"another nonce", func(w *watched) { w.takeAs("ann", ns1("ann", 2), at, drawsOf(second(1), 1)) }},
		{"another of the host", func(w *watched) { w.takeAs("ann", ns1("ann", 1), at, drawsOf(second(2), 1)) }},
		{"another M", func(w *watched) { w.takeAs("ann", ksl1("ann", 1), at, drawsOf(mark(2), 1)) }},
		{"a wait", func(w *watched) { w.takeAs("ann", again1(api.NS, "ann", 1), at, drawsOf(second(1), 1)) }},
	} {
		w := watch(t)
		c.before(w)
		w.errs("NS4, "+c.what, w.take("ann", ns4("ann", 1)), api.ErrState)
		w.errs("KSL3, "+c.what, w.take("ann", ksl3("ann", 1)), api.ErrState)
		w.after()
	}
	w := watch(t) // an NS4 with a ticket of another, whatever its nonces
	w.begin(api.NS, "ann", 1)
	w.errs("NS4", w.take("ann", by("carol", first(1), second(1), key(1))[0]), api.ErrState)
	w.fits("NS4", w.take("carol", by("ann", first(1), second(1), key(5))[0]))
	w.begin(api.KSL, "ann", 1) // a KSL3 for any nonce of the initiator
	w.takeAs("ann", ksl1("ann", 7), at, drawsOf(mark(1), 1))
	got := w.fits("KSL3", w.take("ann", ksl3("ann", 1)))
	if got.events[0].First != first(7) {
		t.Errorf("KSL3 for %x", got.events[0].First)
	}
}

func TestSameDraw(t *testing.T) { // P18.2: a nonce that is drawn again is pending for the newer exchange alone
	w := watch(t)
	w.takeAs("ann", ns1("ann", 1), at, drawsOf(second(1), 1))
	w.takeAs("ann", ksl1("carol", 2), at, drawsOf(second(1), 1))
	w.errs("NS4", w.take("ann", ns4("ann", 1)), api.ErrState)
	w.fits("KSL3", w.take("kdc", note.Note{Kind: note.KSL3, P: sealedAs(word(1), "k3b", word(5), text(second(1)), "carol", text(key(2)))}))
	w.errs("KSL3 again", w.take("kdc", note.Note{Kind: note.KSL3, P: sealedAs(word(1), "k3b", word(5), text(second(1)), "carol", text(key(2)))}), api.ErrState)
}

func TestWaitsForAnother(t *testing.T) { // P18.2: ErrState where the host waits for another initiator, protocol or phase, or not at all; what is not waited for is not opened
	junk := []note.Note{{Kind: note.KSL5}, {Kind: note.KSL5, P: sample(200)}, {Kind: note.KSL5, P: sealedAs(key(1), "k5", word(5), "x")}, {Kind: note.Again3}, {Kind: note.Again3, P: sample(200)}, {Kind: note.Again3, P: sealedAs(key(1), "a3ns", word(5), "x")}}
	waits := []int{onKSL5, onAgain3NS, onAgain3KSL}
	for _, place := range append(waits, onNS1, onNS4, onKSL3) {
		for _, peer := range []string{"ann", "carol"} {
			for _, other := range waits {
				if other == place && peer == "ann" {
					continue
				}
				w := watch(t)
				ways()[place].before(w, peer, 1)
				w.errs(ways()[other].what+" for "+ways()[place].what, w.takeWay(ways()[other], "ann", "ann", 1), api.ErrState)
				for _, n := range junk {
					if n.Kind == note.Again3 || place != onKSL5 || peer == "carol" {
						w.errs("junk", w.take("ann", n), api.ErrState)
					}
				}
				w.after()
			}
		}
	}
	for _, place := range waits { // bytes that are no name have begun nothing
		y := ways()[place]
		w := y.ready(t)
		for _, from := range append(notNames(), "carol", "kdc", "bob", "an", "annn") {
			w.errs(y.what+" from another", w.takeWay(y, from, "ann", 1), api.ErrState)
		}
		w.fits(y.what, w.takeWay(y, "ann", "ann", 1))
	}
}

func TestNewerWait(t *testing.T) { // P18.2: a newer exchange of the same initiator, protocol and phase replaces what was waited for
	for _, place := range []int{onKSL5, onAgain3NS, onAgain3KSL} {
		y := ways()[place]
		w := y.ready(t)
		y.before(w, "ann", 2)
		got := w.takeWay(y, "ann", "ann", 1)
		want := api.ErrState
		if place == onKSL5 {
			want = api.ErrSeal // the newer one has another key
		}
		w.errs(y.what+" of the elder one", got, want)
		w.fits(y.what, w.takeWay(y, "ann", "ann", 2))
		y.before(w, "ann", 1)
		w.fits(y.what, w.takeWay(y, "ann", "ann", 1))
	}
}

func TestOtherKinds(t *testing.T) { // P18.2: ErrState, whatever is in them and whatever the host waits for
	for _, y := range ways() {
		w := y.ready(t)
		good := y.good("ann", 1)
		p, q := good.P, ticketNS("ann", 1)
		for _, n := range []note.Note{
			{Kind: note.NS2, B: "bob", P: p, Y: second(1)}, {Kind: note.NS3, P: q, Q: q, Y: second(1)}, {Kind: note.NS5, P: p},
			{Kind: note.KSL2, A: "ann", X: first(1), B: "bob", Y: second(1)}, {Kind: note.KSL4, P: p, Q: q, R: p, Y: second(1)},
			{Kind: note.Again2, Y: second(1), P: p}, {Kind: note.Time1, A: "ann", X: first(1)}, {Kind: note.Time2, P: p}, {Kind: note.Sorry, A: "ann"}, {Kind: note.Sorry, A: "bob"},
		} {
			w.errs("another kind", w.take("ann", n), api.ErrState)
		}
		w.fits(y.what, w.takeWay(y, "ann", "ann", 1))
		w.after()
	}
}

func TestMostPending(t *testing.T) { // P18.2: of 20 pending nonces all count; the 21st takes the place of the oldest one
	for _, kinds := range []func(i int) int{func(i int) int { return api.NS }, func(i int) int { return api.KSL }, func(i int) int { return 1 + i%2 }, func(i int) int { return 2 - i%2 }} {
		for _, many := range []int{1, 19, 20, 21, 22, 39, 40, 41, 60} {
			w := watch(t)
			for i := range many {
				w.begin(kinds(i), "ann", i)
			}
			for i := range many {
				y := ways()[onNS4]
				if kinds(i) == api.KSL {
					y = ways()[onKSL3]
				}
				got := w.takeWay(y, "ann", "ann", i)
				if i < many-20 {
					w.errs(fmt.Sprintf("%s %d of %d", y.what, i, many), got, api.ErrState)
				} else {
					w.fits(fmt.Sprintf("%s %d of %d", y.what, i, many), got)
				}
			}
		}
	}
}

func TestPendingThatAreTaken(t *testing.T) { // P18.2: a nonce that is taken makes room; one that is drawn again keeps its age; an error makes no room, and takes none
	w := watch(t)
	for i := range 20 {
		w.begin(1+i%2, "ann", i)
	}
	w.fits("NS4", w.takeWay(ways()[onNS4], "ann", "ann", 10))
	w.fits("KSL3", w.takeWay(ways()[onKSL3], "ann", "ann", 11))
	w.begin(api.NS, "ann", 20)
	w.begin(api.NS, "ann", 0)
	w.begin(api.NS, "ann", 22)
	w.errs("NS1", w.take("ann", ns1("bob", 30)), api.ErrArg)
	w.errs("KSL1", w.take("ann", ksl1("bob", 30)), api.ErrArg)
	w.errs("NS1", w.takeAs("ann", ns1("ann", 30), 59, drawsOf(second(30), 30)), api.ErrTime)
	w.fits("the oldest", w.takeWay(ways()[onNS4], "ann", "ann", 0))
	for i := range 3 {
		w.begin(api.NS, "ann", 40+i)
	}
	w.errs("the oldest", w.takeWay(ways()[onKSL3], "ann", "ann", 1), api.ErrState)
	w.errs("the oldest but one", w.takeWay(ways()[onNS4], "ann", "ann", 2), api.ErrState)
	w.fits("the one behind", w.takeWay(ways()[onKSL3], "ann", "ann", 3))

	w = watch(t)
	for i := range 20 {
		w.begin(api.NS, "ann", i)
	}
	w.begin(api.NS, "ann", 0)
	w.begin(api.NS, "ann", 20)
	w.errs("drawn again, but the oldest", w.takeWay(ways()[onNS4], "ann", "ann", 0), api.ErrState)
	w.fits("the next", w.takeWay(ways()[onNS4], "ann", "ann", 1))
}

// waitFor makes the host wait for a peer's exchange, of one of three kinds; ended is what ends it.
func (w *watched) waitFor(kind int, peer string, i int) {
	w.t.Helper()
	switch kind {
	case 0:
		w.wait(peer, i)
	default:
		w.repeat(kind, peer, i)
	}
}

func ended(kind, i int) note.Note {
	if kind == 0 {
		return ksl5(i)
	}
	return again3(kind, i)
}

func peerOf(i int) string { return fmt.Sprint("p", i) }

func TestMostWaits(t *testing.T) { // P18.2: of 20 waits all count; the 21st takes the place of the oldest one; what differs in the initiator, the protocol or the phase is another wait
	for _, kinds := range []func(i int) int{func(i int) int { return 0 }, func(i int) int { return 1 }, func(i int) int { return 2 }, func(i int) int { return i % 3 }, func(i int) int { return 2 - i%3 }} {
		for _, peers := range []func(i int) string{peerOf, func(i int) string { return peerOf(i / 3) }} {
			if kinds(0) == kinds(1) && peers(0) == peers(1) {
				continue
			}
			for _, many := range []int{1, 19, 20, 21, 22, 40, 41, 60} {
				w := watch(t)
				for i := range many {
					w.waitFor(kinds(i), peers(i), i)
				}
				for i := range many {
					got := w.take(peers(i), ended(kinds(i), i))
					if i < many-20 {
						w.errs(fmt.Sprintf("%d of %d", i, many), got, api.ErrState)
					} else {
						w.fits(fmt.Sprintf("%d of %d", i, many), got)
					}
				}
			}
		}
	}
}

func TestWaitsThatAreReplaced(t *testing.T) { // P18.2: a wait that is replaced keeps its age; one that is ended makes room
	for kind := range 3 {
		w := watch(t)
		for i := range 20 {
			w.waitFor(kind, peerOf(i), i)
		}
		w.waitFor(kind, peerOf(0), 50)
		w.waitFor(kind, peerOf(20), 20)
		w.errs("replaced, but the oldest", w.take(peerOf(0), ended(kind, 50)), api.ErrState)
		w.fits("the next", w.take(peerOf(1), ended(kind, 1)))
		w.waitFor(kind, peerOf(1), 51)
		w.fits("the next", w.take(peerOf(2), ended(kind, 2)))
		w.waitFor(kind, peerOf(21), 21)
		w.waitFor(kind, peerOf(22), 22)
		w.errs("the oldest", w.take(peerOf(3), ended(kind, 3)), api.ErrState)
		for i := 4; i < 23; i++ {
			w.fits("the others", w.take(peerOf(i), ended(kind, i)))
		}
		w.fits("that had been ended", w.take(peerOf(1), ended(kind, 51)))
	}
}

// contents is what is sealed in a note's P or Q; with no label, that is as in the good note.
type contents struct {
	key   api.Word
	label string
	texts []string
	short bool // some of its bytes are missing
}

func (c contents) bytes() []byte {
	b := sealedAs(c.key, c.label, word(78), c.texts...)
	if c.short {
		return b[:47]
	}
	return b
}

// setting is a host, and a note for it: those of a good way, until faults change them.
type setting struct {
	place   int
	name    string // of the initiator
	begun   bool
	b       book.Book
	revoked bool
	c       clock.Clock
	reading int64
	p, q    contents
}

// good is the setting of a way that has no fault.
func good(place int) setting {
	s := setting{place: place, name: "ann", begun: true, b: goodBook(), c: goodClock(), reading: at}
	for _, of := range sealings() {
		c := contents{of.key, of.label, slices.Clone(of.texts), false}
		if of.place == place && of.inQ {
			s.q = c
		} else if of.place == place {
			s.p = c
		}
	}
	return s
}

// take is the setting's Take.
func (s setting) take(t *testing.T) (*watched, answer) {
	t.Helper()
	w, y := watch(t), ways()[s.place]
	if s.begun {
		y.before(w, "ann", 1)
	}
	n := y.good(s.name, 1)
	if s.p.label != "" {
		n.P = s.p.bytes()
	}
	if s.q.label != "" {
		n.Q = s.q.bytes()
	}
	if s.revoked {
		s.b.Revoked = []api.Word{host.Ticket(n.Q)}
	}
	w.books(s.b)
	w.clock(s.c)
	return w, w.takeAs("ann", n, s.reading, drawsOf(y.draw(1), 1))
}

type fault struct {
	what string
	err  api.Errno
	make func(s *setting)
}

func inP(what string, err api.Errno, make func(c *contents)) fault {
	return fault{what + " in P", err, func(s *setting) { make(&s.p) }}
}

func inQ(what string, err api.Errno, make func(c *contents)) fault {
	return fault{what + " in Q", err, func(s *setting) { make(&s.q) }}
}

func missing(c *contents)  { c.short = true }
func otherKey(c *contents) { c.key = word(999) }
func oneMore(c *contents)  { c.texts = append(slices.Clone(c.texts), "") }

// putting puts another text in one of the fields.
func putting(place int, text string) func(c *contents) {
	return func(c *contents) { c.texts[place] = text }
}

// faultsOf is the faults of a way's settings, in the order in which the document mentions their errors.
func faultsOf(place int) []fault {
	ownName := fault{"its own name", api.ErrArg, func(s *setting) { s.name = "bob" }}
	notBegun := fault{"nothing begun", api.ErrState, func(s *setting) { s.begun = false }}
	noGen := func(err api.Errno) fault { return fault{"no Gen", err, func(s *setting) { s.b.Gen = 0 }} }
	revoked := fault{"revoked", api.ErrKey, func(s *setting) { s.revoked = true }}
	off := fault{"a clock that is off", api.ErrTime, func(s *setting) { s.c = clock.Off(s.c) }}
	early := fault{"an early reading", api.ErrTime, func(s *setting) { s.reading = 59 }}
	late := inQ("an early expiry", api.ErrLate, putting(2, number(0)))
	otherNonce := inP("another nonce", api.ErrState, putting(1, text(second(9))))
	switch place {
	case onNS1:
		return []fault{ownName, off, early}
	case onNS4:
		return []fault{
			inQ("bytes missing", api.ErrShort, missing), inQ("another key", api.ErrSeal, otherKey), inQ("a field more", api.ErrForm, oneMore), inQ("no name", api.ErrForm, putting(0, "Ann")), revoked, off, early, late,
			inP("bytes missing", api.ErrShort, missing), inP("another key", api.ErrSeal, otherKey), inP("a field more", api.ErrForm, oneMore), otherNonce, notBegun,
		}
	case onKSL1:
		return []fault{ownName}
	case onKSL3:
		return []fault{inP("bytes missing", api.ErrShort, missing), inP("another key", api.ErrSeal, otherKey), inP("a field more", api.ErrForm, oneMore), inP("no word", api.ErrForm, putting(2, "x")), notBegun, noGen(api.ErrKey), off, early}
	case onKSL5:
		return []fault{notBegun, inP("bytes missing", api.ErrShort, missing), inP("another key", api.ErrSeal, otherKey), inP("a field more", api.ErrForm, oneMore), otherNonce}
	case onAgain1NS:
		return []fault{inQ("bytes missing", api.ErrSeal, missing), inQ("another key", api.ErrSeal, otherKey), inQ("a field more", api.ErrSeal, oneMore), inQ("no name", api.ErrForm, putting(0, "Ann")), inQ("no word", api.ErrForm, putting(1, "x")), revoked, off, early, late}
	case onAgain1KSL:
		return []fault{
			inQ("bytes missing", api.ErrSeal, missing), inQ("another key", api.ErrSeal, otherKey), inQ("a field more", api.ErrSeal, oneMore), noGen(api.ErrSeal), {"another Own", api.ErrSeal, func(s *setting) { s.b.Own = word(998) }},
			inQ("no name", api.ErrForm, putting(0, "Ann")), inQ("another Gen", api.ErrKey, putting(3, number(gen+1))), revoked, off, early, late,
		}
	default:
		return []fault{notBegun, inP("bytes missing", api.ErrState, missing), inP("another key", api.ErrState, otherKey), inP("a field more", api.ErrState, oneMore), otherNonce}
	}
}

func TestFaults(t *testing.T) { // P18.2: each error alone; of two and three that apply, the one that is mentioned first; behind each, the host does as it would without that Take
	for place, y := range ways() {
		w, got := good(place).take(t)
		w.fits(y.what+" without faults", got)
		faults := faultsOf(place)
		for i := range faults {
			for j := i; j < len(faults); j++ {
				for k := j; k < len(faults); k++ {
					s := good(place)
					for _, f := range slices.Compact([]int{i, j, k}) {
						faults[f].make(&s)
					}
					w, got := s.take(t)
					w.errs(fmt.Sprintf("%s with %s, %s, %s", y.what, faults[i].what, faults[j].what, faults[k].what), got, faults[i].err)
					w.after()
				}
			}
		}
	}
}

func TestGoodBehindFaults(t *testing.T) { // P18.2: what an error was the answer to can be taken when the fault is mended
	for place, y := range ways() {
		for _, f := range faultsOf(place) {
			s := good(place)
			f.make(&s)
			w, got := s.take(t)
			w.errs(y.what+" with "+f.what, got, f.err)
			w.books(goodBook())
			w.clock(goodClock())
			if !s.begun {
				y.before(w, "ann", 1)
			}
			w.fits(y.what+" behind "+f.what, w.takeWay(y, "ann", "ann", 1))
		}
	}
}
