package host_test

import (
	"bytes"
	"math/rand"
	"slices"
	"testing"

	"bartizan/api"
	"bartizan/book"
	"bartizan/clock"
	"bartizan/host"
	"bartizan/note"
)

func TestTakenOnce(t *testing.T) { // P18.3: an NS4, a KSL3, a KSL5 or an Again3 that was taken once is an error when it is taken again, also behind a new exchange with other draws
	for _, place := range []int{onNS4, onKSL3, onKSL5, onAgain3NS, onAgain3KSL} {
		y := ways()[place]
		again := func(w *watched, what string, want api.Errno) {
			t.Helper()
			for range 2 {
				w.errs(y.what+" again, "+what, w.take("ann", y.good("ann", 1)), want)
			}
			for _, from := range []string{"carol", "kdc", "bob", ""} {
				w.errs(y.what+" again, "+what+", from another", w.take(from, y.good("ann", 1)), api.ErrState)
			}
		}
		ready := func() *watched {
			w := y.ready(t)
			w.fits(y.what, w.takeWay(y, "ann", "ann", 1))
			return w
		}
		again(ready(), "at once", api.ErrState)
		for other, of := range ways() {
			w := ready()
			of.before(w, "ann", 2)
			want := api.ErrState
			if place == onKSL5 && other == onKSL5 {
				want = api.ErrSeal // the host waits for a KSL5, but by another key
			}
			again(w, "behind the calls in front of "+of.what, want)
			w.fits(of.what, w.takeWay(of, "ann", "ann", 2))
			if place == onKSL5 && other == onKSL3 {
				want = api.ErrSeal
			} else {
				want = api.ErrState
			}
			again(w, "behind "+of.what, want)
			w.forget()
			again(w, "forgotten", api.ErrState)
		}
		w := ready() // another exchange with the same nonce of the initiator, by the same ticket and key
		switch place {
		case onNS4:
			w.take("ann", ns1("ann", 1))
		case onKSL3:
			w.take("ann", ksl1("ann", 1))
		case onKSL5:
			got := w.take("ann", ksl1("ann", 1))
			w.fits("KSL3", w.take("kdc", by("ann", first(1), got.n.Y, key(1))[4]))
		case onAgain3NS:
			w.take("ann", again1(api.NS, "ann", 1))
		case onAgain3KSL:
			w.take("ann", again1(api.KSL, "ann", 1))
		}
		again(w, "behind an exchange of the same words", api.ErrState)
	}
}

// record is an exchange that the host has answered once: by which nonce of its own, and which key.
type record struct {
	peer            string
	protocol, phase int
	n, d, k         api.Word
	ready           bool // of KSL: whether the host waits for it
}

// slip is a ticket, and what an initiator needs to use it.
type slip struct {
	peer string
	b    []byte
	k    api.Word
}

// chance makes calls at random, mostly such that fit; of all the notes that were made, some are taken again.
type chance struct {
	r       *rand.Rand
	count   int // of exchanges: each has words of its own
	reading int64
	records []record
	slips   []slip
	old     []note.Note
}

func newChance(seed int64) *chance {
	return &chance{r: rand.New(rand.NewSource(seed)), reading: at}
}

// peer is an initiator, or, now and then, the host itself.
func (c *chance) peer() string {
	if c.r.Intn(20) == 0 {
		return "bob"
	}
	return []string{"ann", "carol", "dan"}[c.r.Intn(3)]
}

// due is an expiry near the time, or far from it.
func (c *chance) due() int64 { return 4900 + c.reading + int64(c.r.Intn(3000)) }

// begins is the first note of an exchange.
func (c *chance) begins() note.Note {
	c.count++
	peer := c.peer()
	switch c.r.Intn(4) {
	case 0:
		return ns1(peer, c.count)
	case 1:
		return ksl1(peer, c.count)
	case 2:
		q := sealedAs(word(1), "nst", word(c.count), peer, text(key(c.count)), number(c.due()))
		c.slips = append(c.slips, slip{peer, q, key(c.count)})
	}
	if len(c.slips) == 0 {
		return ns1(peer, c.count)
	}
	return note.Note{Kind: note.Again1, Q: c.slips[c.r.Intn(len(c.slips))].b, X: first(c.count)}
}

// goesOn is a note that may fit one of the last exchanges, and who sends it.
func (c *chance) goesOn() (note.Note, string) {
	if len(c.records) == 0 {
		return ksl5(1), "ann"
	}
	back := min(len(c.records), 1+c.r.Intn(30))
	e := c.records[len(c.records)-1-c.r.Intn(back)]
	notes := by(e.peer, e.n, e.d, e.k)
	switch {
	case e.phase == api.Repeat:
		return notes[1+e.protocol], e.peer
	case e.protocol == api.NS:
		notes[0].Q = sealedAs(word(1), "nst", e.d, e.peer, text(e.k), number(c.due()))
		return notes[0], e.peer
	case e.ready:
		return notes[1], e.peer
	default:
		notes[4].Q = sample(c.r.Intn(40))
		return notes[4], e.peer
	}
}

// spoil changes a note a little.
func (c *chance) spoil(n note.Note) note.Note {
	n.P, n.Q = bytes.Clone(n.P), bytes.Clone(n.Q)
	b := &n.P
	if len(n.P) == 0 || len(n.Q) > 0 && c.r.Intn(2) == 0 {
		b = &n.Q
	}
	if len(*b) == 0 {
		return n
	}
	switch c.r.Intn(2) {
	case 0:
		(*b)[c.r.Intn(len(*b))] ^= byte(1 + c.r.Intn(255))
	case 1:
		*b = (*b)[:c.r.Intn(len(*b))]
	}
	return n
}

// learn keeps what came of a Take.
func (c *chance) learn(n note.Note, got answer) {
	if got.err != api.OK {
		return
	}
	e := record{peer: n.A, protocol: api.NS, phase: api.Initial, n: n.X, d: got.n.Y, k: key(c.count)}
	switch n.Kind {
	case note.KSL1:
		e.protocol = api.KSL
	case note.KSL3, note.Again1:
		of := got.events[0]
		e = record{of.Peer, of.Protocol, of.Phase, of.First, of.Second, of.Key, true}
		if n.Kind == note.KSL3 {
			c.slips = append(c.slips, slip{of.Peer, got.n.Q, of.Key})
		}
	case note.NS4, note.KSL5, note.Again3:
		return
	}
	c.records = append(c.records, e)
}

// turn changes the host's book, its clock, or what it has begun.
func (c *chance) turn(w *watched) {
	switch c.r.Intn(8) {
	case 0:
		w.forget()
	case 1:
		w.clock(unknown()[c.r.Intn(len(unknown()))])
	case 2, 3, 4:
		w.clock(clock.Clock{Ppm: c.r.Intn(100001), On: true, At: c.reading, S: api.Span{Lo: 4900 + c.reading - int64(c.r.Intn(50)), Hi: 4900 + c.reading + int64(c.r.Intn(50))}})
	case 5:
		b := w.m.b
		b.Gen = c.r.Intn(3) * gen
		w.books(b)
	case 6:
		b := w.m.b
		if len(c.slips) > 0 {
			b.Revoked = append(slices.Clone(b.Revoked), host.Ticket(c.slips[c.r.Intn(len(c.slips))].b))
		}
		w.books(b)
	case 7:
		w.books(book.Book{Gen: gen, Own: word(2)})
	}
}

// step is one call; what was taken and the answer are handed back.
func (c *chance) step(w *watched) (note.Note, answer, bool) {
	from, n := c.peer(), c.begins()
	switch roll := c.r.Intn(100); {
	case roll < 6:
		c.turn(w)
		return note.Note{}, answer{}, false
	case roll < 8:
		c.reading += int64(c.r.Intn(1000))
		return note.Note{}, answer{}, false
	case roll < 10:
		n = note.Note{Kind: note.Sorry, A: from}
	case roll < 20 && len(c.old) > 0:
		n = c.old[c.r.Intn(len(c.old))]
	case roll < 60:
		n, from = c.goesOn()
	}
	if c.r.Intn(12) == 0 {
		from = c.peer()
	}
	if c.r.Intn(12) == 0 {
		n = c.spoil(n)
	}
	c.old = append(c.old, n)
	got := w.takeAs(from, n, c.reading-int64(c.r.Intn(20)/19), w.newDraws())
	c.learn(n, got)
	return n, got, true
}

func TestAnyCalls(t *testing.T) { // P18.2, P18.3, at random: as the document's words have it; each commit has an event of its own in which the host runs, and is the only one of its nonces
	met, kinds, runs := map[api.Errno]int{}, map[int]int{}, map[api.Event]int{}
	for seed := range int64(60) {
		w, c := watch(t), newChance(seed)
		running, committed := map[api.Event]bool{}, map[api.Word]bool{}
		for range 500 {
			n, got, taken := c.step(w)
			if !taken {
				continue
			}
			met[got.err]++
			if got.err == api.OK {
				kinds[n.Kind]++
			}
			for _, e := range got.events {
				runs[api.Event{Kind: e.Kind, Protocol: e.Protocol, Phase: e.Phase}]++
				if e.Kind == api.Running {
					running[e] = true
					continue
				}
				ran := e
				ran.Kind = api.Running
				if !running[ran] || committed[e.Second] {
					t.Errorf("a commit %+v: running %v, committed before %v", e, running[ran], committed[e.Second])
				}
				committed[e.Second] = true
			}
		}
	}
	for _, err := range []api.Errno{api.OK, api.ErrArg, api.ErrShort, api.ErrSeal, api.ErrLate, api.ErrTime, api.ErrKey, api.ErrState} {
		if met[err] < 20 {
			t.Errorf("error %d was met %d times", err, met[err])
		}
	}
	for _, kind := range []int{note.NS1, note.NS4, note.KSL1, note.KSL3, note.KSL5, note.Again1, note.Again3} {
		if kinds[kind] < 100 {
			t.Errorf("kind %d was taken %d times", kind, kinds[kind])
		}
	}
	for _, kind := range []int{api.Running, api.Commit} {
		for _, protocol := range []int{api.NS, api.KSL} {
			for _, phase := range []int{api.Initial, api.Repeat} {
				if n := runs[api.Event{Kind: kind, Protocol: protocol, Phase: phase}]; n < 50 {
					t.Errorf("events of kind %d, protocol %d, phase %d: %d", kind, protocol, phase, n)
				}
			}
		}
	}
}
