package guest_test

import (
	"bytes"
	"fmt"
	"go/parser"
	"go/token"
	"math/rand"
	"path/filepath"
	"strconv"
	"strings"
	"sync"
	"testing"

	"bartizan/api"
	"bartizan/guest"
	"bartizan/note"
)

func TestTakenOnce(t *testing.T) { // P17.3: what was taken once is ErrState when it is taken again, also behind a new Start or Again with another nonce
	for place, way := range ways() {
		again := func(w *watched, what string, want api.Errno) {
			t.Helper()
			for _, from := range []string{"bob", "kdc", "carol"} {
				got := w.take(from, way.good("bob", 1))
				if from == "bob" {
					w.errs(way.what+" again, "+what, got, want)
				} else if got.err == api.OK {
					t.Errorf("%s again, %s, from %s: no error", way.what, what, from)
				}
			}
		}
		ready := func() *watched {
			w := watch(t)
			way.before(w, "bob", 1)
			w.fits(way.what, w.take("bob", way.good("bob", 1)))
			return w
		}
		w := ready()
		again(w, "at once", api.ErrState)
		for _, protocol := range []int{api.NS, api.KSL} {
			w = ready()
			w.fits("Start", w.start(protocol, "bob", own(2)))
			again(w, "behind Start", api.ErrState)
		}
		w = ready()
		w.received("bob", 2)
		want := api.ErrState
		if place == 1 {
			want = api.ErrSeal // it waits for an NS5, but by another key
		}
		again(w, "behind NS3", want)
		w = ready()
		w.received("bob", 2)
		w.take("bob", ns5(2))
		again(w, "behind another NS", api.ErrState)
		if place > 0 { // there is a ticket
			w = ready()
			w.fits("Again", w.again("bob", own(2)))
			again(w, "behind Again", api.ErrState)
			w.fits("Sorry", w.take("kdc", sorry("bob")))
			again(w, "behind Sorry", api.ErrState)
		}
	}
	w := watch(t)
	w.received("bob", 1)
	w.fits("NS5", w.take("bob", ns5(1)))
	w.start(api.NS, "bob", own(2))
	n := ns3("bob", 2)
	n.P = sealedAs(word(1), "ns3", word(50), "bob", text(own(2)), text(key(1)), number(1)) // with the elder key
	w.fits("NS3", w.take("kdc", n))
	w.errs("an NS5 of the same key", w.take("bob", ns5(1)), api.ErrState)
}

func TestNothingBegun(t *testing.T) { // P17.3: a guest that has not begun commits to nothing, whatever it takes
	w := watch(t)
	for i := range 30 {
		for _, peer := range []string{"bob", "carol", "ann"} {
			for _, way := range ways() {
				got := w.take(peer, way.good(peer, i))
				if got.err == api.OK || len(got.events) != 0 {
					t.Errorf("%s: %s", way.what, got.told())
				}
			}
			w.fits("Sorry", w.take(peer, sorry(peer)))
			w.has(peer)
		}
	}
	none := api.Word{}
	both := []string{text(none), text(none)}
	for _, n := range []note.Note{ // with words that are zero, as those of what is not pending may be
		{Kind: note.NS3, P: sealedAs(word(1), "ns3", none, "bob", text(none), text(none), number(0))},
		{Kind: note.NS5, P: sealedAs(none, "ns5", none, both...)},
		{Kind: note.KSL4, P: sealedAs(word(1), "k3a", none, text(none), "bob", text(none)), R: sealedAs(none, "k4", none, both...)},
		{Kind: note.Again2, P: sealedAs(none, "a2ns", none, both...)},
		{Kind: note.Again2, P: sealedAs(none, "a2ksl", none, both...)},
		{Kind: note.Again2, P: sealedAs(none, "a2", none, both...)},
		{Kind: note.Again2, P: sealedAs(none, "a", none, both...)},
	} {
		for _, from := range []string{"bob", "", "kdc"} {
			w.errs("with zero words", w.take(from, n), api.ErrState)
		}
	}
	w.errs("Again", w.again("bob", own(1)), api.ErrName)
}

// chance makes calls at random, mostly such that fit; of all the notes that were made, some are taken again.
type chance struct {
	r      *rand.Rand
	peers  []string
	begun  map[string]int // the last exchange of each peer
	keys   map[string]int // the exchange that its ticket is of
	count  int            // of exchanges: each has a nonce of its own
	nonces map[api.Word]bool
	old    []note.Note
}

func newChance(seed int64) *chance {
	return &chance{r: rand.New(rand.NewSource(seed)), peers: []string{"bob", "carol", "dan"}, begun: map[string]int{}, keys: map[string]int{}, nonces: map[api.Word]bool{}}
}

func (c *chance) peer() string { return c.peers[c.r.Intn(len(c.peers))] }

// spoil changes a note a little.
func (c *chance) spoil(n note.Note) note.Note {
	switch c.r.Intn(6) {
	case 0:
		n.P = bytes.Clone(n.P)
		n.P[c.r.Intn(len(n.P))] ^= byte(1 + c.r.Intn(255))
	case 1:
		n.P = n.P[:c.r.Intn(len(n.P))]
	case 2:
		if n.Kind != note.NS5 {
			n.Y[c.r.Intn(16)] ^= 1
		}
	case 3:
		if n.Kind == note.KSL4 {
			n.R = n.R[:c.r.Intn(len(n.R))]
		}
	case 4:
		if n.Kind == note.NS3 {
			n.P = sealedAs(word(1), "ns3", word(50), c.peer(), text(own(c.count)), text(key(c.count)))
		}
	case 5:
		if n.Kind == note.KSL4 {
			n.P = sealedAs(word(1), "k3a", word(50), text(own(c.count)), text(key(c.count)), c.peer())
		}
	}
	return n
}

// fitting is a note that may fit what is pending with a peer.
func (c *chance) fitting(peer string) note.Note {
	i := c.begun[peer]
	switch c.r.Intn(6) {
	case 0, 1:
		return ns3(peer, i)
	case 2:
		return ns5(i)
	case 3:
		return ksl4(peer, i)
	case 4:
		return again2(api.NS, i, c.keys[peer])
	default:
		return again2(api.KSL, i, c.keys[peer])
	}
}

// step is one call; the answer of a Take is handed back.
func (c *chance) step(w *watched) (answer, bool) {
	peer := c.peer()
	switch roll := c.r.Intn(100); {
	case roll < 10:
		c.count++
		if w.start(1+c.r.Intn(2), peer, own(c.count)).err == api.OK {
			c.begun[peer] = c.count
			c.nonces[own(c.count)] = true
		}
	case roll < 20:
		c.count++
		if w.again(peer, own(c.count)).err == api.OK {
			c.begun[peer] = c.count
			c.nonces[own(c.count)] = true
		}
	case roll < 22:
		w.start(c.r.Intn(5)-1, []string{"ann", "", "Bob", peer}[c.r.Intn(3)], own(c.count))
	case roll < 24:
		return w.take(c.peer(), sorry(peer)), true
	case roll < 27:
		return w.take(peer, note.Note{Kind: note.KSL5, P: sample(c.r.Intn(60))}), true
	case roll < 37 && len(c.old) > 0:
		return w.take(c.peer(), c.old[c.r.Intn(len(c.old))]), true
	case roll < 45:
		return w.take(peer, c.spoil(c.fitting(peer))), true
	default:
		n := c.fitting(peer)
		c.old = append(c.old, n)
		from := peer
		if c.r.Intn(10) == 0 {
			from = c.peer()
		}
		got := w.take(from, n)
		for _, e := range got.events {
			if e.Kind == api.Commit && e.Phase == api.Initial {
				c.keys[e.Peer] = c.begun[e.Peer]
			}
		}
		return got, true
	}
	return answer{}, false
}

func TestAnyCalls(t *testing.T) { // P17.1 to P17.3, at random: as the document's words have it; every commit is for a nonce that Start or Again was handed, and is the only one for it
	met, runs := map[api.Errno]int{}, map[api.Event]int{}
	for seed := range int64(60) {
		w, c := watch(t), newChance(seed)
		committed := map[api.Word]bool{}
		for range 400 {
			got, taken := c.step(w)
			if !taken {
				continue
			}
			met[got.err]++
			for _, e := range got.events {
				runs[api.Event{Kind: e.Kind, Protocol: e.Protocol, Phase: e.Phase}]++
				if e.Kind != api.Commit {
					continue
				}
				if !c.nonces[e.First] || committed[e.First] {
					t.Errorf("a commit for %x: begun %v, committed before %v", e.First, c.nonces[e.First], committed[e.First])
				}
				committed[e.First] = true
			}
		}
		w.has("bob", "carol", "dan", "ann", "")
	}
	for _, err := range []api.Errno{api.OK, api.ErrShort, api.ErrForm, api.ErrSeal, api.ErrState} {
		if met[err] < 20 {
			t.Errorf("error %d was met %d times", err, met[err])
		}
	}
	for _, kind := range []int{api.Running, api.Commit} {
		for _, protocol := range []int{api.NS, api.KSL} {
			for _, phase := range []int{api.Initial, api.Repeat} {
				if n := runs[api.Event{Kind: kind, Protocol: protocol, Phase: phase}]; n < 50 {
					t.Errorf("events of kind %d, protocol %d, phase %d: %d", kind, protocol, phase, n)
				}
			}
		}
	}
}

// blot writes over all bytes of a list, and over what is behind its end, as far as its memory goes.
func blot(lists ...[]byte) {
	for _, b := range lists {
		b = b[:cap(b)]
		for i := range b {
			b[i] ^= 0x55
		}
	}
}

func TestNotesAreTheCallers(t *testing.T) { // R3: what is written into a note that was handed in, or into what was returned, changes nothing of what is answered later, nor the other way about
	w := watch(t)
	takes := func(from string, n note.Note) answer {
		t.Helper()
		memory := append(append(append(append([]byte("in front"), n.P...), n.Q...), n.R...), "behind"...)
		p := memory[8:]
		n.P, n.Q, n.R = p[:len(n.P)], p[len(n.P):len(n.P)+len(n.Q)], p[len(n.P)+len(n.Q):len(n.P)+len(n.Q)+len(n.R)]
		before := string(memory)
		got := w.fits("Take", w.take(from, n))
		toldBefore := got.told()
		if string(memory) != before {
			t.Error("Take has written into its note")
		}
		blot(memory)
		if got.told() != toldBefore {
			t.Error("the answer shares memory with the note")
		}
		blot(memory)
		blot(got.n.Q)
		if string(memory) != before {
			t.Error("the note shares memory with the answer")
		}
		blot(got.n.Q)
		rest := got
		rest.n.P = bytes.Clone(got.n.P)
		blot(got.n.P)
		if rest.told() != toldBefore {
			t.Error("P of the answer shares memory with another part of it")
		}
		blot(memory, got.n.Q, got.n.R)
		clear(got.events[:cap(got.events)])
		return got
	}
	for i := 1; i < 8; i += 2 {
		w.start(api.NS, "bob", own(i))
		takes("kdc", ns3("bob", i))
		takes("bob", ns5(i))
		w.start(api.KSL, "carol", own(i))
		takes("kdc", ksl4("carol", i))
		for j := range 3 {
			for protocol, peer := range map[int]string{api.NS: "bob", api.KSL: "carol"} {
				first, second := w.again(peer, own(100*i+j)), w.again(peer, own(100*i+j))
				blot(first.n.Q)
				if !bytes.Equal(second.n.Q, slip(i)) {
					t.Error("the notes of Again share memory")
				}
				blot(second.n.Q)
				takes(peer, again2(protocol, 100*i+j, i))
				w.has("bob", "carol")
			}
		}
	}
}

func TestNilAndEmpty(t *testing.T) { // R2: a ticket of no bytes, nil or empty, is one
	for _, q := range [][]byte{nil, {}, make([]byte, 0, 9)} {
		w := watch(t)
		w.start(api.NS, "bob", own(1))
		n := ns3("bob", 1)
		n.Q = q
		if got := w.fits("NS3", w.take("kdc", n)); len(got.n.Q) != 0 {
			t.Errorf("a ticket of %d bytes", len(got.n.Q))
		}
		w.fits("NS5", w.take("bob", ns5(1)))
		w.has("bob")
		if got := w.fits("Again", w.again("bob", own(2))); len(got.n.Q) != 0 {
			t.Errorf("a ticket of %d bytes", len(got.n.Q))
		}
		w.start(api.KSL, "carol", own(3))
		n = ksl4("carol", 3)
		n.Q = q
		w.fits("KSL4", w.take("carol", n))
		w.fits("Again", w.again("carol", own(4)))
		for _, p := range [][]byte{nil, {}} {
			w.errs("no bytes", w.take("carol", note.Note{Kind: note.Again2, P: p}), api.ErrShort)
			w.errs("no bytes", w.take("kdc", note.Note{Kind: note.NS3, P: p}), api.ErrShort)
		}
	}
}

// script is what a row of calls answers.
func script(t *testing.T, seed int64) string {
	var all strings.Builder
	w, c := watch(t), newChance(seed)
	for range 200 {
		got, _ := c.step(w)
		all.WriteString(got.told() + "\n")
		for _, peer := range c.peers {
			protocol, ok := w.g.Has(peer)
			fmt.Fprintln(&all, peer, protocol, ok)
		}
	}
	return all.String()
}

func TestSameCallsSameAnswers(t *testing.T) { // R4: two guests that are handed the same answer the same, whatever others were handed
	first, _ := guest.New("ann", word(1))
	second, _ := guest.New("ann", word(1))
	third, _ := guest.New("bob", word(1))
	for i := range 20 {
		peer := []string{"bob", "carol"}[i%2]
		for _, n := range []note.Note{ns3(peer, i), ns5(i), ksl4(peer, i), again2(api.NS, i, i-1), sorry(peer)} {
			protocol := 1 + i%3
			third.Start(3-protocol, "ann", word(i))
			third.Take("ann", n, word(i))
			one, oneErr := first.Start(protocol, peer, own(i))
			two, twoErr := second.Start(protocol, peer, own(i))
			if told(one) != told(two) || oneErr != twoErr {
				t.Errorf("Start: %s and %s", told(one), told(two))
			}
			oneTo, one, oneEvents, oneErr := first.Take(peer, n, word(i))
			twoTo, two, twoEvents, twoErr := second.Take(peer, n, word(i))
			if (answer{oneTo, one, oneEvents, oneErr}).told() != (answer{twoTo, two, twoEvents, twoErr}).told() {
				t.Errorf("Take: %s and %s", told(one), told(two))
			}
		}
	}
	for seed := range int64(5) {
		want := script(t, seed)
		script(t, seed+100)
		if script(t, seed) != want {
			t.Error("the same calls have other answers")
		}
	}
}

func TestTwoGuests(t *testing.T) { // R4: what one guest waits for and has is not another's, of whatever name
	for _, name := range []string{"ann", "dan"} {
		w, idle := watch(t), watchOf(t, name, word(1))
		w.ticketNS("bob", 1)
		w.received("carol", 2)
		idle.has("bob", "carol")
		idle.errs("Again", idle.again("bob", own(3)), api.ErrName)
		idle.errs("NS5", idle.take("carol", ns5(2)), api.ErrState)
		idle.fits("Sorry", idle.take("bob", sorry("bob")))
		idle.fits("Sorry", idle.take("bob", sorry("carol")))
		w.fits("NS5", w.take("carol", ns5(2)))
		w.fits("Again", w.again("bob", own(3)))
	}
}

func TestSeveralGoroutines(t *testing.T) { // R5: each with a guest of its own
	want := make([]string, 8)
	for i := range want {
		want[i] = script(t, int64(i))
	}
	var group sync.WaitGroup
	for i := range 16 {
		group.Go(func() {
			if script(t, int64(i%8)) != want[i%8] {
				t.Error("other answers")
			}
		})
	}
	group.Wait()
}

func TestGreatArguments(t *testing.T) { // R7: names by the hundreds of millions of bytes, hundreds of thousands of peers
	long := strings.Repeat("b", 1<<28)
	if g, err := guest.New(long, word(1)); g != nil || err != api.ErrArg {
		t.Errorf("New: error %d", err)
	}
	w := watch(t)
	w.received("bob", 1)
	w.errs("Start", answerOf(w.g.Start(api.NS, long, own(1))), api.ErrArg)
	w.errs("Again", answerOf(w.g.Again(long, own(1))), api.ErrName)
	if protocol, ok := w.g.Has(long); protocol != 0 || ok {
		t.Errorf("Has: %d and %v", protocol, ok)
	}
	to, n, events, err := w.g.Take(long, ns5(1), own(1))
	w.errs("Take", answer{to, n, events, err}, api.ErrState)
	for i := range 200000 {
		if _, err := w.g.Start(api.KSL, "p"+strconv.Itoa(i), own(i)); err != api.OK {
			t.Fatalf("Start %d: error %d", i, err)
		}
	}
	for _, i := range []int{0, 1, 99999, 199999} {
		to, _, events, err := w.g.Take("kdc", ksl4("p"+strconv.Itoa(i), i), word(7))
		if to != "p"+strconv.Itoa(i) || len(events) != 2 || err != api.OK {
			t.Errorf("KSL4 %d: to %q, error %d", i, to, err)
		}
	}
	w.fits("NS5", w.take("bob", ns5(1)))
}

func answerOf(n note.Note, err api.Errno) answer { return answer{n: n, err: err} }

func TestImports(t *testing.T) { // R6, and the map: guest imports api, field, note and kdc
	files, err := filepath.Glob("*.go")
	if err != nil || len(files) == 0 {
		t.Fatal("no files", err)
	}
	for _, name := range files {
		if strings.HasSuffix(name, "_test.go") {
			continue
		}
		file, err := parser.ParseFile(token.NewFileSet(), name, nil, parser.ImportsOnly)
		if err != nil {
			t.Fatal(err)
		}
		for _, i := range file.Imports {
			switch i.Path.Value {
			case `"bartizan/api"`, `"bartizan/field"`, `"bartizan/note"`, `"bartizan/kdc"`, `"bytes"`, `"strings"`:
			default:
				t.Errorf("%s imports %s", name, i.Path.Value)
			}
		}
	}
}
