package guest_test

import (
	"bytes"
	"math"
	"slices"
	"strings"
	"testing"

	"bartizan/api"
	"bartizan/book"
	"bartizan/guest"
	"bartizan/kdc"
	"bartizan/note"
)

// way is one of the good ways: the calls in front of a Take, and the Take. The ticket of a repetition is that of exchange 9.
type way struct {
	what   string
	before func(w *watched, peer string, i int)
	from   string
	good   func(peer string, i int) note.Note
}

func ways() []way {
	return []way{
		{"NS3", func(w *watched, peer string, i int) { w.start(api.NS, peer, own(i)) }, "kdc", ns3},
		{"NS5", func(w *watched, peer string, i int) { w.received(peer, i) }, "bob", func(peer string, i int) note.Note { return ns5(i) }},
		{"KSL4", func(w *watched, peer string, i int) { w.start(api.KSL, peer, own(i)) }, "bob", ksl4},
		{"Again2 of NS", func(w *watched, peer string, i int) {
			w.ticketNS(peer, 9)
			w.again(peer, own(i))
		}, "bob", func(peer string, i int) note.Note { return again2(api.NS, i, 9) }},
		{"Again2 of KSL", func(w *watched, peer string, i int) {
			w.ticketKSL(peer, 9)
			w.again(peer, own(i))
		}, "bob", func(peer string, i int) note.Note { return again2(api.KSL, i, 9) }},
	}
}

// after is what is done behind a refused Take, to see that the guest does as it would without it: all that may fit is taken.
func (w *watched) after() {
	w.t.Helper()
	people := []string{"bob", "carol", "ann", "dan", ""}
	w.has(people...)
	for _, way := range ways() {
		for _, peer := range people[:2] {
			for _, i := range []int{1, 2} {
				w.take(peer, way.good(peer, i))
			}
		}
	}
	w.has(people...)
	for _, peer := range people {
		w.again(peer, own(3))
		w.take(peer, again2(api.NS, 3, 9))
		w.take(peer, again2(api.KSL, 3, 9))
	}
}

// opened: b was made with a key, a label and a draw, of these fields.
func opened(t *testing.T, b []byte, key api.Word, label string, draw api.Word, want ...string) {
	t.Helper()
	if len(b) < 16 || api.Word(b[:16]) != draw {
		t.Errorf("%s: not with the draw: %x", label, b)
	}
	var texts []string
	parts, err := kdc.Parts(key, label, b, len(want))
	for _, part := range parts {
		texts = append(texts, string(part))
	}
	if err != api.OK || !slices.Equal(texts, want) {
		t.Errorf("%s: error %d and %q, want %q", label, err, texts, want)
	}
}

// does: the reply goes to a peer, and is a note; these are the events.
func does(t *testing.T, got answer, to string, n note.Note, events ...api.Event) {
	t.Helper()
	if got.err != api.OK || got.to != to || told(got.n) != told(n) || !slices.Equal(got.events, events) {
		t.Errorf("%s,\nwant to %q %s %+v", got.told(), to, told(n), events)
	}
}

func TestNS3(t *testing.T) { // P17.2: the recipient, each field of the reply, the event, whoever has sent it
	for _, from := range []string{"kdc", "bob", "ann", "carol", "", "Bob"} {
		w := watch(t)
		w.start(api.NS, "bob", own(1))
		got := w.take(from, ns3("bob", 1))
		opened(t, got.n.P, key(1), "ns4", word(1001), text(own(1)), text(other(1)))
		does(t, got, "bob", note.Note{Kind: note.NS4, Q: slip(1), P: got.n.P}, api.Event{Kind: api.Running, Protocol: api.NS, Phase: api.Initial, Who: "ann", Peer: "bob", First: own(1), Second: other(1), Key: key(1)})
		w.has("bob", "ann", from)
		w.errs("Again", w.again("bob", own(2)), api.ErrName)
	}
}

func TestNS5(t *testing.T) { // P17.2: no reply; the event; the ticket
	w := watch(t)
	w.received("bob", 1)
	does(t, w.take("bob", ns5(1)), "", note.Note{}, api.Event{Kind: api.Commit, Protocol: api.NS, Phase: api.Initial, Who: "ann", Peer: "bob", First: own(1), Second: other(1), Key: key(1)})
	if protocol, ok := w.g.Has("bob"); protocol != api.NS || !ok {
		t.Errorf("Has: %d and %v", protocol, ok)
	}
	if got := w.again("bob", own(2)); !bytes.Equal(got.n.Q, slip(1)) {
		t.Errorf("Again: %s", got.told())
	}
}

func TestKSL4(t *testing.T) { // P17.2: the recipient, each field of the reply, both events in their order, the ticket, whoever has sent it
	for _, from := range []string{"bob", "kdc", "ann", "carol", "", "Bob"} {
		w := watch(t)
		w.start(api.KSL, "bob", own(1))
		got := w.take(from, ksl4("bob", 1))
		opened(t, got.n.P, key(1), "k5", word(1001), text(own(1)), text(other(1)))
		e := api.Event{Kind: api.Running, Protocol: api.KSL, Phase: api.Initial, Who: "ann", Peer: "bob", First: own(1), Second: other(1), Key: key(1)}
		then := e
		then.Kind = api.Commit
		does(t, got, "bob", note.Note{Kind: note.KSL5, P: got.n.P}, e, then)
		if protocol, ok := w.g.Has("bob"); protocol != api.KSL || !ok {
			t.Errorf("Has: %d and %v", protocol, ok)
		}
		if got := w.again("bob", own(2)); !bytes.Equal(got.n.Q, slip(1)) {
			t.Errorf("Again: %s", got.told())
		}
	}
}

func TestAgain2(t *testing.T) { // P17.2: the recipient, each field of the reply, both events in their order; the ticket stays
	for protocol, label := range map[int]string{api.NS: "a3ns", api.KSL: "a3ksl"} {
		w := watch(t)
		ways()[2+protocol].before(w, "bob", 1)
		got := w.take("bob", again2(protocol, 1, 9))
		opened(t, got.n.P, key(9), label, word(1000+w.draws), text(own(1)), text(other(1)))
		e := api.Event{Kind: api.Running, Protocol: protocol, Phase: api.Repeat, Who: "ann", Peer: "bob", First: own(1), Second: other(1), Key: key(9)}
		then := e
		then.Kind = api.Commit
		does(t, got, "bob", note.Note{Kind: note.Again3, P: got.n.P}, e, then)
		if has, ok := w.g.Has("bob"); has != protocol || !ok {
			t.Errorf("Has: %d and %v", has, ok)
		}
		if got := w.again("bob", own(2)); !bytes.Equal(got.n.Q, slip(9)) {
			t.Errorf("Again: %s", got.told())
		}
	}
}

func TestWordsOfAllKinds(t *testing.T) { // P17.2: nonces, keys and draws of any kind, tickets of any length, any number
	words := []api.Word{{}, filled(255), {15: 1}, {1}}
	for i, n := range words {
		for j, y := range words {
			k, guestKey, q := words[(i+j)%4], words[(i+2*j)%4], sample(500*(i%2))
			for _, expiry := range []int64{0, -1, api.Far, math.MinInt64, math.MaxInt64} {
				w := watchOf(t, "ann", guestKey)
				both := []string{text(n), text(y)}
				w.start(api.NS, "bob", n)
				p := sealedAs(guestKey, "ns3", n, "bob", text(n), text(k), number(expiry))
				w.fits("NS3", w.take("kdc", note.Note{Kind: note.NS3, P: p, Q: q, Y: y}))
				w.fits("NS5", w.take("bob", note.Note{Kind: note.NS5, P: sealedAs(k, "ns5", y, both...)}))
				w.fits("Again", w.again("bob", n))
				w.fits("Again2", w.take("bob", note.Note{Kind: note.Again2, P: sealedAs(k, "a2ns", y, both...), Y: y}))
				w.start(api.KSL, "bob", n)
				p = sealedAs(guestKey, "k3a", n, text(n), "bob", text(k))
				w.fits("KSL4", w.take("bob", note.Note{Kind: note.KSL4, P: p, Q: q, R: sealedAs(k, "k4", y, both...), Y: y}))
				w.fits("Again", w.again("bob", n))
				w.fits("Again2", w.take("bob", note.Note{Kind: note.Again2, P: sealedAs(k, "a2ksl", y, both...), Y: y}))
				w.has("bob")
			}
		}
	}
}

func TestDraws(t *testing.T) { // P17.2: draws of any kind are the counters
	for _, draw := range []api.Word{{}, filled(255), own(1)} {
		for i, label := range map[int]string{0: "ns4", 2: "k5", 3: "a3ns", 4: "a3ksl"} {
			w, way := watch(t), ways()[i]
			way.before(w, "bob", 1)
			k := key(1)
			if i > 2 {
				k = key(9)
			}
			_, n, _, err := w.g.Take("bob", way.good("bob", 1), draw)
			if err != api.OK {
				t.Errorf("%s: error %d", way.what, err)
			}
			opened(t, n.P, k, label, draw, text(own(1)), text(other(1)))
		}
	}
}

func TestWrongSeals(t *testing.T) { // P17.2: the errors of opening, for P and R: each prefix, each bit, another key, another label, too many bytes
	for _, way := range ways() {
		w := watch(t)
		way.before(w, "bob", 1)
		good := way.good("bob", 1)
		blobs := []func(n *note.Note) *[]byte{func(n *note.Note) *[]byte { return &n.P }}
		if good.Kind == note.KSL4 {
			blobs = append(blobs, func(n *note.Note) *[]byte { return &n.R })
		}
		for _, blob := range blobs {
			whole := *blob(&good)
			refuse := func(what string, b []byte, want api.Errno) {
				t.Helper()
				n := good
				*blob(&n) = b
				w.errs(way.what+": "+what, w.take(way.from, n), want)
			}
			for i := range whole {
				want := api.ErrSeal
				if i < 48 {
					want = api.ErrShort
				}
				refuse("a prefix", whole[:i], want)
			}
			for bit := range 8 * len(whole) {
				b := bytes.Clone(whole)
				b[bit/8] ^= 1 << (bit % 8)
				refuse("a bit turned", b, api.ErrSeal)
			}
			refuse("nil", nil, api.ErrShort)
			refuse("a byte more", append(bytes.Clone(whole), 0), api.ErrSeal)
			refuse("500 bytes", sample(500), api.ErrSeal)
		}
		w.has("bob", "carol")
		w.fits(way.what+" behind all of that", w.take(way.from, good))
		w.after()
	}
}

// asTold is the fields that are sealed in a good note's P, or R, with the key and the label that they are sealed with.
type asTold struct {
	place int // in ways
	inR   bool
	key   api.Word
	label string
	texts []string
}

func allTold() []asTold {
	both := []string{text(own(1)), text(other(1))}
	return []asTold{
		{0, false, word(1), "ns3", []string{"bob", text(own(1)), text(key(1)), number(1)}},
		{1, false, key(1), "ns5", both},
		{2, false, word(1), "k3a", []string{text(own(1)), "bob", text(key(1))}},
		{2, true, key(1), "k4", both},
		{3, false, key(9), "a2ns", both},
		{4, false, key(9), "a2ksl", both},
	}
}

// with is the good note with other sealed bytes.
func (a asTold) with(b []byte) note.Note {
	n := ways()[a.place].good("bob", 1)
	if a.inR {
		n.R = b
	} else {
		n.P = b
	}
	return n
}

func (a asTold) what() string { return ways()[a.place].what + ", " + a.label }

// ready is a guest that waits for the note.
func (a asTold) ready(t *testing.T) *watched {
	w := watch(t)
	ways()[a.place].before(w, "bob", 1)
	return w
}

func TestGoodFields(t *testing.T) { // what the tests below change is good before
	for _, a := range allTold() {
		w := a.ready(t)
		w.fits(a.what(), w.take(ways()[a.place].from, a.with(sealedAs(a.key, a.label, word(77), a.texts...))))
	}
}

func TestOtherKeysAndLabels(t *testing.T) { // P17.2: ErrSeal, with whatever fields, those of wrong forms and wrong nonces too
	labels := []string{"ns1", "ns2", "ns3", "ns4", "ns5", "nst", "kt", "k3a", "k3b", "k4", "k5", "a2ns", "a2ksl", "a3ns", "a3ksl", "a2", "NS3", "k4 "}
	for _, a := range allTold() {
		w := a.ready(t)
		lists := [][]string{a.texts, nil, {""}, {"a", "b"}, slices.Repeat([]string{text(own(2))}, len(a.texts))}
		for _, texts := range lists {
			for _, label := range labels {
				if label != a.label {
					w.errs(a.what()+" for "+label, w.take("bob", a.with(sealedAs(a.key, label, word(77), texts...))), api.ErrSeal)
				}
			}
			for _, k := range []api.Word{{}, word(1), word(2), key(1), key(2), key(9), own(1), other(1)} {
				if k != a.key {
					w.errs(a.what()+" with another key", w.take("bob", a.with(sealedAs(k, a.label, word(77), texts...))), api.ErrSeal)
				}
			}
			for bit := range 128 {
				k := a.key
				k[bit/8] ^= 1 << (bit % 8)
				w.errs(a.what()+" with another key", w.take("bob", a.with(sealedAs(k, a.label, word(77), texts...))), api.ErrSeal)
			}
		}
		w.after()
	}
}

func TestOtherNumbersOfFields(t *testing.T) { // P17.2: ErrForm for one field more, one less, and for what is no fields
	for _, a := range allTold() {
		w := a.ready(t)
		for many := range 21 {
			if many == len(a.texts) {
				continue
			}
			for _, texts := range [][]string{slices.Repeat(a.texts, 11)[:many], slices.Repeat([]string{""}, many), append(slices.Repeat([]string{""}, max(0, many-len(a.texts))), a.texts...)[:max(many, len(a.texts))]} {
				if len(texts) != len(a.texts) && len(encoded(texts...)) <= 452 {
					w.errs(a.what()+" of other fields", w.take("bob", a.with(sealedAs(a.key, a.label, word(77), texts...))), api.ErrForm)
				}
			}
		}
		all := encoded(a.texts...)
		for _, plain := range []string{"\x00", all + "\x00", all + "\x00\x00", all[:len(all)-1], all[1:], "\x01\xf5" + all, strings.Repeat("\xff", 100), strings.Repeat("\x00", 42), strings.Repeat("\x00", 40)} {
			w.errs(a.what()+" of no fields", w.take("bob", a.with(locked(a.key, a.label, word(77), plain))), api.ErrForm)
		}
		w.after()
	}
}

// notWords is fields that are not 16 bytes, made of one that is.
func notWords(w string) []string {
	return []string{"", w[:15], w[1:], w + "\x00", "\x00" + w, w + w, w[:8], "a", w + string(sample(240)), w + "a"}
}

func TestFieldsOfOtherForms(t *testing.T) { // P17.2: ErrForm for what is not a name, a word or a number in NS3's P and KSL4's P; it comes before ErrState
	for _, a := range []asTold{allTold()[0], allTold()[2]} {
		for _, ready := range []func() *watched{func() *watched { return a.ready(t) }, func() *watched { return watch(t) }} { // and when nothing was begun
			w := ready()
			refuse := func(at int, text string) {
				t.Helper()
				texts := slices.Clone(a.texts)
				texts[at] = text
				n := a.with(sealedAs(a.key, a.label, word(77), texts...))
				w.errs(a.what(), w.take("bob", n), api.ErrForm)
				n.R = n.R[:len(n.R)/3] // comes before the error of opening R, too
				w.errs(a.what(), w.take("bob", n), api.ErrForm)
			}
			for at, old := range a.texts {
				switch len(old) {
				case 3:
					for _, name := range append(notNames(), "bob\x00", "BOB", old+strings.Repeat("b", 18), "kdc/bob") {
						if len(name) < 300 {
							refuse(at, name)
						}
					}
					for c := range 256 {
						if name := "bo" + string([]byte{byte(c)}); !isName(name) {
							refuse(at, name)
						}
					}
				case 16:
					for _, text := range notWords(old) {
						refuse(at, text)
					}
				case 8:
					for _, text := range []string{"", old[:7], old[1:], old + "\x00", "\x00" + old, old + old, "1", old + string(sample(256))} {
						refuse(at, text)
					}
				}
			}
			for at := range len(a.texts) - 1 {
				texts := slices.Clone(a.texts)
				texts[at], texts[at+1] = texts[at+1], texts[at]
				if len(texts[at]) != len(texts[at+1]) {
					w.errs(a.what()+" in another order", w.take("bob", a.with(sealedAs(a.key, a.label, word(77), texts...))), api.ErrForm)
				}
			}
			w.after()
		}
	}
}

func TestOtherNonces(t *testing.T) { // P17.2: ErrState for another N or another Y in what was opened, of whatever length
	for _, a := range allTold() {
		if len(a.texts) != 2 {
			continue
		}
		w := a.ready(t)
		refuse := func(texts ...string) {
			t.Helper()
			w.errs(a.what(), w.take("bob", a.with(sealedAs(a.key, a.label, word(77), texts...))), api.ErrState)
		}
		n, y := a.texts[0], a.texts[1]
		for bit := range 128 {
			otherN, otherY := own(1), other(1)
			otherN[bit/8] ^= 1 << (bit % 8)
			otherY[bit/8] ^= 1 << (bit % 8)
			refuse(text(otherN), y)
			refuse(n, text(otherY))
			refuse(text(otherN), text(otherY))
		}
		for _, text := range append(notWords(n), y, text(own(9)), text(other(9)), text(key(1))) {
			refuse(text, y)
		}
		for _, text := range append(notWords(y), n, text(own(9)), text(other(9)), text(key(1))) {
			refuse(n, text)
		}
		refuse(y, n)
		refuse("", "")
		w.after()
	}
}

func TestOtherY(t *testing.T) { // P17.2: the Y of a KSL4 and of an Again2 is the one in what was sealed; that of an NS3 stands against NS5
	for _, place := range []int{2, 3, 4} {
		w, way := watch(t), ways()[place]
		way.before(w, "bob", 1)
		for bit := range 128 {
			n := way.good("bob", 1)
			n.Y[bit/8] ^= 1 << (bit % 8)
			w.errs(way.what+" with another Y", w.take("bob", n), api.ErrState)
		}
		w.after()
	}
	for bit := range 128 {
		w, n := watch(t), ns3("bob", 1)
		n.Y[bit/8] ^= 1 << (bit % 8)
		w.start(api.NS, "bob", own(1))
		w.fits("NS3", w.take("kdc", n))
		w.errs("NS5 for another Y", w.take("bob", ns5(1)), api.ErrState)
		w.fits("NS5", w.take("bob", note.Note{Kind: note.NS5, P: sealedAs(key(1), "ns5", word(5), text(own(1)), text(n.Y))}))
	}
}

func TestZeroNonces(t *testing.T) { // P17.2: fields that are no words are not taken for the zero word
	for _, texts := range [][]string{{"", ""}, {"", text(api.Word{})}, {text(api.Word{}), ""}, {"a", text(api.Word{})}, {text(api.Word{}), strings.Repeat("\x00", 17)}, {strings.Repeat("\x00", 15), text(api.Word{})}} {
		var none api.Word
		w := watch(t)
		w.start(api.NS, "bob", none)
		w.fits("NS3", w.take("kdc", note.Note{Kind: note.NS3, P: sealedAs(word(1), "ns3", none, "bob", text(none), text(none), number(0))}))
		w.errs("NS5", w.take("bob", note.Note{Kind: note.NS5, P: sealedAs(none, "ns5", none, texts...)}), api.ErrState)
		w.start(api.KSL, "carol", none)
		p := sealedAs(word(1), "k3a", none, text(none), "carol", text(none))
		w.errs("KSL4", w.take("carol", note.Note{Kind: note.KSL4, P: p, R: sealedAs(none, "k4", none, texts...)}), api.ErrState)
		w.fits("KSL4", w.take("carol", note.Note{Kind: note.KSL4, P: p, R: sealedAs(none, "k4", none, text(none), text(none))}))
		w.again("carol", none)
		w.errs("Again2", w.take("carol", note.Note{Kind: note.Again2, P: sealedAs(none, "a2ksl", none, texts...)}), api.ErrState)
		w.fits("Again2", w.take("carol", note.Note{Kind: note.Again2, P: sealedAs(none, "a2ksl", none, text(none), text(none))}))
	}
}

func TestZeroKeyWaits(t *testing.T) { // P17.2: before the key is received, there is none, not the zero one
	w := watch(t)
	w.start(api.NS, "bob", own(1))
	for _, y := range []api.Word{{}, other(1)} {
		p := sealedAs(api.Word{}, "ns5", word(5), text(own(1)), text(y))
		w.errs("NS5", w.take("bob", note.Note{Kind: note.NS5, P: p}), api.ErrState)
	}
	w.after()
}

// state is calls that bring ann to what she may wait for, or have; fits is the way whose good note she waits for, if there is one.
type state struct {
	what   string
	before func(w *watched, peer string, i int)
	fits   int
}

func states() []state {
	var all []state
	for place, way := range ways() {
		next := -1
		if way.what == "NS3" {
			next = 1 // NS5 is what comes behind it
		}
		all = append(all,
			state{"waits for " + way.what, way.before, place},
			state{"has taken " + way.what, func(w *watched, peer string, i int) {
				way.before(w, peer, i)
				w.fits(way.what, w.take(peer, way.good(peer, i)))
			}, next},
			state{"was sorry for " + way.what, func(w *watched, peer string, i int) {
				way.before(w, peer, i)
				w.fits("Sorry", w.take("kdc", sorry(peer)))
			}, -1})
	}
	return append(all, state{"nothing", func(w *watched, peer string, i int) {}, -1})
}

func TestWaitsForAnother(t *testing.T) { // P17.2: each good note where the guest waits for it, and where it waits for another protocol, phase, peer or N, with the key received or not, or for nothing
	for _, s := range states() {
		for _, peer := range []string{"bob", "carol"} {
			for _, i := range []int{1, 2} {
				for place, way := range ways() {
					w := watch(t)
					s.before(w, peer, i)
					got := w.take("bob", way.good("bob", 1))
					if s.fits == place && peer == "bob" && i == 1 {
						w.fits(way.what+" where it "+s.what, got)
					} else if got.err == api.OK || got.err != api.ErrState && got.err != api.ErrSeal {
						t.Errorf("%s where it %s with %s, %d: error %d", way.what, s.what, peer, i, got.err)
					}
					w.after()
				}
			}
		}
	}
}

func TestErrStateWhereNothingFits(t *testing.T) { // P17.2: the error is ErrState, where peer, protocol, phase, N or what was received are others; NS5 and Again2 are not opened then
	for place, way := range ways() {
		for _, s := range states() {
			w := watch(t)
			s.before(w, "carol", 1)
			w.errs(way.what+" where it "+s.what+" with another", w.take("bob", way.good("bob", 1)), api.ErrState)
			if s.fits == place {
				continue
			}
			w = watch(t)
			s.before(w, "bob", 1)
			if (place == 3 || place == 4) && (s.fits == 3 || s.fits == 4) {
				w.errs(way.what+" where it "+s.what, w.take("bob", way.good("bob", 1)), api.ErrSeal) // it waits for a repetition, but by the other label
				continue
			}
			w.errs(way.what+" where it "+s.what, w.take("bob", way.good("bob", 1)), api.ErrState)
			if place == 1 || place > 2 {
				n := way.good("bob", 1)
				for _, p := range [][]byte{nil, n.P[:20], sample(300), sealedAs(key(1), "ns5", word(1)), sealedAs(key(9), "a2ns", word(1))} {
					n.P = p
					w.errs(way.what+" of other bytes where it "+s.what, w.take("bob", n), api.ErrState)
				}
			}
			w.after()
		}
	}
	for _, place := range []int{0, 2} { // another N
		way, a := ways()[place], allTold()[place]
		w := watch(t)
		way.before(w, "bob", 2)
		w.errs(way.what+" for another N", w.take("bob", way.good("bob", 1)), api.ErrState)
		at := slices.Index(a.texts, text(own(1)))
		for bit := range 128 {
			n := own(2)
			n[bit/8] ^= 1 << (bit % 8)
			texts := slices.Clone(a.texts)
			texts[at] = text(n)
			w.errs(way.what+" for another N", w.take("bob", a.with(sealedAs(a.key, a.label, word(7), texts...))), api.ErrState)
		}
		w.after()
	}
}

func TestFrom(t *testing.T) { // P17.2: NS5 and Again2 count by who sends them; bytes that are no name have sent nothing that fits
	for _, place := range []int{1, 3, 4} {
		way := ways()[place]
		w := watch(t)
		way.before(w, "bob", 1)
		for _, from := range append(notNames(), "carol", "kdc", "ann", "bo", "bobb", "Bob", "bob ", "bob\x00") {
			w.errs(way.what+" from "+from, w.take(from, way.good("bob", 1)), api.ErrState)
		}
		w.fits(way.what, w.take("bob", way.good("bob", 1)))
	}
}

func TestTwoErrors(t *testing.T) { // P17.2: which of two errors is returned
	badSeal := func(a asTold, texts ...string) []byte { return sealedAs(word(999), a.label, word(7), texts...) }
	short := sample(47)
	all := allTold()
	for _, place := range []int{0, 2} { // NS3, KSL4: opening P, ErrForm, ErrState; KSL4: opening R, ErrState
		a := all[place]
		nothing, ready := watch(t), a.ready(t)
		for _, w := range []*watched{nothing, ready} {
			w.errs("short P", w.take("bob", a.with(short)), api.ErrShort)
			w.errs("another key before the form", w.take("bob", a.with(badSeal(a, "x"))), api.ErrSeal)
			w.errs("another number of fields", w.take("bob", a.with(sealedAs(a.key, a.label, word(7), "x"))), api.ErrForm)
			w.errs("another form", w.take("bob", a.with(sealedAs(a.key, a.label, word(7), slices.Repeat([]string{"x"}, len(a.texts))...))), api.ErrForm)
			n := a.with(short)
			n.R = nil
			if place == 2 {
				n.R = sealedAs(key(1), "k4", word(7), "x")
			}
			w.errs("short P before R", w.take("bob", n), api.ErrShort)
		}
		w := nothing
		w.errs("a good one", w.take("bob", a.with(sealedAs(a.key, a.label, word(7), a.texts...))), api.ErrState)
		ready.after()
	}
	r := all[3]
	for _, b := range [][]byte{nil, short, badSeal(r, r.texts...), sealedAs(key(1), "k4", word(7), "x"), sealedAs(key(1), "k4", word(7), "x", "y")} {
		w := watch(t)
		w.errs("KSL4 with nothing begun, before R", w.take("bob", r.with(b)), api.ErrState)
		w.start(api.KSL, "bob", own(2))
		w.errs("KSL4 for another N, before R", w.take("bob", r.with(b)), api.ErrState)
		w.start(api.NS, "bob", own(1))
		w.errs("KSL4 for another protocol, before R", w.take("bob", r.with(b)), api.ErrState)
	}
	for _, a := range all {
		if len(a.texts) != 2 {
			continue
		}
		w := a.ready(t)
		w.errs("a short one", w.take("bob", a.with(short)), api.ErrShort)
		w.errs("another key before other nonces", w.take("bob", a.with(badSeal(a, text(own(2)), text(other(2))))), api.ErrSeal)
		w.errs("another key before other fields", w.take("bob", a.with(badSeal(a, "x"))), api.ErrSeal)
		w.errs("other fields before other nonces", w.take("bob", a.with(sealedAs(a.key, a.label, word(7), text(own(2)), text(other(2)), ""))), api.ErrForm)
		w.errs("other nonces", w.take("bob", a.with(sealedAs(a.key, a.label, word(7), text(own(2)), text(other(2))))), api.ErrState)
		w.after()
	}
}

func TestSorry(t *testing.T) { // P17.2: with a ticket, with something pending, with both and with neither, whoever sends it; what is had for others stays
	for _, s := range states() {
		for _, others := range states() {
			for _, from := range []string{"bob", "kdc", "", "carol"} {
				w := watch(t)
				s.before(w, "bob", 1)
				others.before(w, "carol", 2)
				does(t, w.take(from, sorry("bob")), "", note.Note{})
				w.has("bob", "carol")
				if protocol, ok := w.g.Has("bob"); ok || protocol != 0 {
					t.Errorf("Has where it %s: %d", s.what, protocol)
				}
				for _, way := range ways() {
					w.errs(way.what+" behind Sorry, where it "+s.what, w.take("bob", way.good("bob", 1)), api.ErrState)
				}
				w.errs("Again", w.again("bob", own(3)), api.ErrName)
				if others.fits >= 0 {
					w.fits("of the other", w.take("carol", ways()[others.fits].good("carol", 2)))
				}
				w.after()
			}
		}
	}
}

func TestSorryForOthers(t *testing.T) { // P17.2: a Sorry that names another, or the guest itself, takes nothing away
	for _, s := range states() {
		w := watch(t)
		s.before(w, "bob", 1)
		for _, name := range []string{"carol", "ann", "bo", "bobb", "kdc", "b"} {
			does(t, w.take("bob", sorry(name)), "", note.Note{})
		}
		if s.fits >= 0 {
			w.fits(s.what, w.take("bob", ways()[s.fits].good("bob", 1)))
		}
		w.after()
	}
}

func TestOtherKinds(t *testing.T) { // P17.2: ErrState, whatever is in them and whatever the guest waits for
	for _, s := range states() {
		w := watch(t)
		s.before(w, "bob", 1)
		for _, way := range ways() {
			good := way.good("bob", 1)
			p, q := good.P, slip(1)
			for _, n := range []note.Note{
				{Kind: note.NS1, A: "bob", X: own(1)}, {Kind: note.NS2, B: "bob", P: p, Y: other(1)}, {Kind: note.NS4, P: p, Q: q},
				{Kind: note.KSL1, A: "bob", X: own(1)}, {Kind: note.KSL2, A: "ann", B: "bob", X: own(1), Y: other(1)}, {Kind: note.KSL3, P: p, Q: p}, {Kind: note.KSL5, P: p},
				{Kind: note.Again1, Q: q, X: own(1)}, {Kind: note.Again3, P: p}, {Kind: note.Time1, A: "bob", X: own(1)}, {Kind: note.Time2, P: p},
			} {
				w.errs("another kind", w.take("bob", n), api.ErrState)
			}
		}
		w.after()
	}
}

func TestNewExchangeReplaces(t *testing.T) { // P17.1: what fitted the elder one is ErrState; one for another peer replaces nothing
	begin := map[string]func(w *watched, peer string){
		"NS":    func(w *watched, peer string) { w.fits("Start", w.start(api.NS, peer, own(5))) },
		"KSL":   func(w *watched, peer string) { w.fits("Start", w.start(api.KSL, peer, own(5))) },
		"again": func(w *watched, peer string) { w.fits("Again", w.again(peer, own(5))) },
	}
	for _, way := range ways() {
		for name, newer := range begin {
			for _, protocol := range []int{api.NS, api.KSL} {
				w := watch(t)
				if protocol == api.NS { // tickets of exchange 9, so that Again can be called for both
					w.ticketNS("bob", 9)
					w.ticketNS("carol", 9)
				} else {
					w.ticketKSL("bob", 9)
					w.ticketKSL("carol", 9)
				}
				way.before(w, "bob", 1)
				newer(w, "carol")
				w.fits(way.what+" with another's "+name+" behind", w.take(way.from, way.good("bob", 1)))

				way.before(w, "bob", 1)
				newer(w, "bob")
				w.errs(way.what+" with a newer "+name, w.take(way.from, way.good("bob", 1)), api.ErrState)
				w.after()
			}
		}
	}
	for _, way := range ways() { // also by the very same call
		w := watch(t)
		way.before(w, "bob", 1)
		way.before(w, "bob", 2)
		want := api.ErrState
		if way.what == "NS5" {
			want = api.ErrSeal // as the newer key has been received
		}
		w.errs(way.what+" of the elder one", w.take(way.from, way.good("bob", 1)), want)
		w.fits(way.what, w.take(way.from, way.good("bob", 2)))
	}
	w := watch(t)
	w.received("bob", 1)
	w.start(api.NS, "bob", own(1)) // with the same nonce: the key is not received in this one
	w.errs("NS5 of the elder one", w.take("bob", ns5(1)), api.ErrState)
	w.fits("NS3", w.take("kdc", ns3("bob", 1)))
	w.fits("NS5", w.take("bob", ns5(1)))
}

func TestFailedExchangeKeepsTicket(t *testing.T) { // P17.1: a new exchange does not take the ticket away, nor does what comes of it before the commit
	w := watch(t)
	w.ticketKSL("bob", 9)
	w.received("bob", 1)
	if got := w.again("bob", own(2)); got.err != api.OK || !bytes.Equal(got.n.Q, slip(9)) {
		t.Errorf("Again: %s", got.told())
	}
	w.fits("Again2", w.take("bob", again2(api.KSL, 2, 9)))
	w.start(api.KSL, "bob", own(3))
	n := ksl4("bob", 3)
	n.R = sealedAs(key(3), "k4", word(7), text(own(3)), text(own(3)))
	w.errs("KSL4 with a wrong R", w.take("bob", n), api.ErrState)
	if got := w.again("bob", own(2)); got.err != api.OK || !bytes.Equal(got.n.Q, slip(9)) {
		t.Errorf("Again: %s", got.told())
	}
	w.fits("Again2", w.take("bob", again2(api.KSL, 2, 9)))
}

func TestManyPeers(t *testing.T) { // P17.1: each peer has a pending exchange and a ticket of its own
	w := watch(t)
	name := func(i int) string { return strings.Repeat("p", 1+i%19) + string(rune('a'+i/19)) }
	for i := range 100 {
		w.start(1+i%2, name(i), own(i))
	}
	for i := range 100 {
		if i%2 == 0 {
			w.fits("NS3", w.take("kdc", ns3(name(i), i)))
		} else {
			w.fits("KSL4", w.take("kdc", ksl4(name(i), i)))
		}
	}
	for i := 98; i >= 0; i -= 2 {
		w.fits("NS5", w.take(name(i), ns5(i)))
	}
	for i := range 100 {
		w.has(name(i))
		w.fits("Again", w.again(name(i), own(1000+i)))
	}
	for i := range 100 {
		w.fits("Again2", w.take(name(i), again2(1+i%2, 1000+i, i)))
	}
}

func TestWithTheCentre(t *testing.T) { // P17.2: what kdc.Answer has made, for both protocols
	b := book.Book{L: []book.Entry{{Name: "ann", Key: word(1)}, {Name: "bob", Key: word(2)}}}
	g, _ := guest.New("ann", word(1))
	ns1, _ := g.Start(api.NS, "bob", own(1))
	p := kdc.Sealed(word(2), "ns2", word(60), []byte(ns1.A), ns1.X[:], []byte(number(500)))
	to, n, err := kdc.Answer(b, note.Note{Kind: note.NS2, B: "bob", P: p, Y: other(1)}, [3]api.Word{key(1), word(61), word(62)})
	if to != "ann" || err != api.OK {
		t.Fatalf("to %q, error %d", to, err)
	}
	to, ns4, events, err := g.Take("kdc", n, word(63))
	if to != "bob" || err != api.OK || len(events) != 1 || events[0].Key != key(1) {
		t.Fatalf("NS3: to %q, error %d, %+v", to, err, events)
	}
	opened(t, ns4.Q, word(2), "nst", word(62), "ann", text(key(1)), number(500))
	opened(t, ns4.P, key(1), "ns4", word(63), text(own(1)), text(other(1)))

	ksl1, _ := g.Start(api.KSL, "bob", own(2))
	to, n, err = kdc.Answer(b, note.Note{Kind: note.KSL2, A: ksl1.A, X: ksl1.X, B: "bob", Y: word(64)}, [3]api.Word{key(2), word(65), word(66)})
	if to != "bob" || err != api.OK {
		t.Fatalf("to %q, error %d", to, err)
	}
	r := kdc.Sealed(key(2), "k4", word(67), []byte(text(own(2))), []byte(text(other(2))))
	to, ksl5, events, err := g.Take("bob", note.Note{Kind: note.KSL4, P: n.Q, Q: slip(2), R: r, Y: other(2)}, word(68))
	if to != "bob" || err != api.OK || len(events) != 2 || events[1].Key != key(2) {
		t.Fatalf("KSL4: to %q, error %d, %+v", to, err, events)
	}
	opened(t, ksl5.P, key(2), "k5", word(68), text(own(2)), text(other(2)))
}
