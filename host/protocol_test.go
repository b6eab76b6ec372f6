package host_test

import (
	"fmt"
	"math/rand"
	"testing"

	"bartizan/api"
	"bartizan/book"
	"bartizan/clock"
	"bartizan/guest"
	"bartizan/host"
	"bartizan/kdc"
	"bartizan/note"
)

// letter is a note's bytes on their way.
type letter struct {
	from, to string
	b        []byte
}

// party is some principals, each a guest and a host, and the kdc; what is sent lies in a list, out of which anything can be taken any time.
type party struct {
	t      *testing.T
	names  []string
	guests map[string]*guest.Guest
	hosts  map[string]*host.Host
	b      book.Book
	sent   []letter
	draws  int
	at     int64
	log    []api.Event
	kinds  map[int]int // notes that were taken without an error
}

func newParty(t *testing.T, names ...string) *party {
	p := &party{t: t, names: names, guests: map[string]*guest.Guest{}, hosts: map[string]*host.Host{}, at: at, kinds: map[int]int{}}
	for i, name := range names {
		p.b.L = append(p.b.L, book.Entry{Name: name, Key: word(1 + i)})
		p.guests[name], _ = guest.New(name, word(1+i))
		p.hosts[name], _ = host.New(name, word(1+i), life)
		p.hosts[name].Books(book.Book{Gen: 1, Own: word(100 + i)})
		p.hosts[name].Clock(goodClock())
	}
	return p
}

func (p *party) draw() api.Word {
	p.draws++
	return word(1000 + p.draws)
}

func (p *party) send(from, to string, n note.Note) {
	if n.Kind == 0 {
		return
	}
	b, err := note.Put(n)
	if err != api.OK {
		p.t.Errorf("note.Put: error %d for %s", err, told(n))
	}
	p.sent = append(p.sent, letter{from, to, b})
}

// deliver is what the recipient of a letter does with it.
func (p *party) deliver(l letter) api.Errno {
	n, err := note.Read(l.b)
	if err != api.OK {
		p.t.Fatalf("note.Read: error %d", err)
	}
	var to string
	var reply note.Note
	var events []api.Event
	switch {
	case l.to == kdc.Name:
		to, reply, err = kdc.Answer(p.b, n, [3]api.Word{p.draw(), p.draw(), p.draw()})
	case n.Kind == note.NS3 || n.Kind == note.NS5 || n.Kind == note.KSL4 || n.Kind == note.Again2:
		to, reply, events, err = p.guests[l.to].Take(l.from, n, p.draw())
	default:
		to, reply, events, err = p.hosts[l.to].Take(l.from, n, p.at, [4]api.Word{p.draw(), p.draw(), p.draw(), p.draw()})
	}
	if err != api.OK {
		if reply.Kind != 0 || len(events) != 0 || to != "" {
			p.t.Errorf("beside error %d: %q %s %+v", err, to, told(reply), events)
		}
		return err
	}
	p.kinds[n.Kind]++
	p.log = append(p.log, events...)
	p.send(l.to, to, reply)
	return err
}

// run delivers all letters in the order in which they were sent.
func (p *party) run() {
	p.t.Helper()
	for len(p.sent) > 0 {
		l := p.sent[0]
		p.sent = p.sent[1:]
		if err := p.deliver(l); err != api.OK {
			p.t.Errorf("to %s, kind %d: error %d", l.to, l.b[0], err)
		}
	}
}

// agreed: for each commit there is an earlier event of its own in which the peer runs, with the same protocol, phase, nonces and key (P4).
func (p *party) agreed() {
	p.t.Helper()
	running := map[api.Event]int{}
	for _, e := range p.log {
		if e.Kind == api.Running {
			running[e]++
			continue
		}
		peer := e
		peer.Kind, peer.Who, peer.Peer = api.Running, e.Peer, e.Who
		if running[peer] == 0 {
			p.t.Errorf("a commit without its event: %+v", e)
		}
		running[peer]--
	}
}

func TestWholeExchanges(t *testing.T) { // P18.2, P4: with guests and the kdc, both protocols, Initial and Repeat; both sides commit, each to what the other one runs
	for _, protocol := range []int{api.NS, api.KSL} {
		p := newParty(t, "ann", "bob")
		n, _ := p.guests["ann"].Start(protocol, "bob", p.draw())
		p.send("ann", "bob", n)
		p.run()
		p.agreed()
		if has, ok := p.guests["ann"].Has("bob"); has != protocol || !ok {
			t.Errorf("Has: %d and %v", has, ok)
		}
		for range 3 {
			n, err := p.guests["ann"].Again("bob", p.draw())
			if err != api.OK {
				t.Errorf("Again: error %d", err)
			}
			p.send("ann", "bob", n)
			p.run()
			p.agreed()
		}
		commits := map[string]int{}
		for _, e := range p.log {
			if e.Kind == api.Commit {
				commits[fmt.Sprint(e.Who, e.Protocol, e.Phase)]++
			}
		}
		for _, who := range []string{"ann", "bob"} {
			if commits[fmt.Sprint(who, protocol, api.Initial)] != 1 || commits[fmt.Sprint(who, protocol, api.Repeat)] != 3 {
				t.Errorf("commits: %v", commits)
			}
		}
	}
}

func TestTicketsThatCountNoMore(t *testing.T) { // P18.2: a ticket that was issued counts until its expiry, until it is revoked, and, of KSL, until the next generation
	for _, protocol := range []int{api.NS, api.KSL} {
		p := newParty(t, "ann", "bob")
		n, _ := p.guests["ann"].Start(protocol, "bob", p.draw())
		p.send("ann", "bob", n)
		p.run()
		again := func(what string, want api.Errno) {
			t.Helper()
			n, _ := p.guests["ann"].Again("bob", p.draw())
			p.send("ann", "bob", n)
			if err := p.deliver(p.sent[0]); err != want {
				t.Errorf("%s, protocol %d: error %d, want %d", what, protocol, err, want)
			}
			p.sent = nil
		}
		again("at once", api.OK)
		p.hosts["bob"].Books(book.Book{Gen: 2, Own: word(100 + 1)})
		if protocol == api.KSL {
			again("the next generation", api.ErrKey)
		} else {
			again("the next generation", api.OK)
		}
		n, _ = p.guests["ann"].Again("bob", p.draw())
		p.hosts["bob"].Books(book.Book{Revoked: []api.Word{host.Ticket(n.Q)}, Gen: 1, Own: word(100 + 1)})
		again("revoked", api.ErrKey)
		p.hosts["bob"].Books(book.Book{Gen: 1, Own: word(100 + 1)})
		p.at += life - (hi - lo) - 2 // the slack of so many ticks is 2
		again("as late as it can be", api.OK)
		p.at += 3
		again("too late", api.ErrLate)
		p.hosts["bob"].Clock(clock.Off(goodClock()))
		again("without a known time", api.ErrTime)
	}
}

// trouble makes p begin exchanges and take letters at random: some twice, some from others and by others than they were sent.
func (p *party) trouble(r *rand.Rand) {
	who, peer := p.names[r.Intn(len(p.names))], p.names[r.Intn(len(p.names))]
	switch roll := r.Intn(100); {
	case roll < 10:
		if n, err := p.guests[who].Start(1+r.Intn(2), peer, p.draw()); err == api.OK {
			p.send(who, peer, n)
		}
	case roll < 25:
		if n, err := p.guests[who].Again(peer, p.draw()); err == api.OK {
			p.send(who, peer, n)
		}
	case roll < 26:
		p.hosts[who].Forget()
	case roll < 27:
		p.at += int64(r.Intn(100))
		p.hosts[who].Clock(clock.Clock{Ppm: 50, On: r.Intn(4) > 0, At: p.at, S: api.Span{Lo: p.at, Hi: p.at + int64(r.Intn(10))}})
	default:
		if len(p.sent) == 0 {
			return
		}
		i := len(p.sent) - 1 - r.Intn(min(len(p.sent), 1+r.Intn(40)))
		l := p.sent[i]
		if r.Intn(20) == 0 {
			l.to = peer
		}
		if r.Intn(20) == 0 {
			l.from = peer
		}
		p.deliver(l) // the letter stays, and can be delivered again
	}
}

func TestTroubledExchanges(t *testing.T) { // P4, P18.3: whatever is delivered, in whatever order, twice, and by others: for each commit there is an event of its own
	kinds := map[int]int{}
	for seed := range int64(30) {
		p, r := newParty(t, "ann", "bob", "carol"), rand.New(rand.NewSource(seed))
		for range 800 {
			p.trouble(r)
		}
		p.agreed()
		for kind, n := range p.kinds {
			kinds[kind] += n
		}
	}
	for kind := note.NS1; kind <= note.Again3; kind++ {
		if kinds[kind] < 50 {
			t.Errorf("kind %d was taken %d times", kind, kinds[kind])
		}
	}
}
