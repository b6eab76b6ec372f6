package host_test

import (
	"fmt"
	"go/parser"
	"go/token"
	"math"
	"path/filepath"
	"slices"
	"strings"
	"sync"
	"testing"

	"bartizan/api"
	"bartizan/book"
	"bartizan/clock"
	"bartizan/host"
	"bartizan/note"
)

// blot writes over all bytes of a list, and over what is behind its end, as far as its memory goes; a second time undoes it.
func blot(lists ...[]byte) {
	for _, b := range lists {
		b = b[:cap(b)]
		for i := range b {
			b[i] ^= 0x55
		}
	}
}

// takeBlotted takes a note whose bytes lie in one memory, and writes over that, and over the answer, once it has seen that they share nothing.
func (w *watched) takeBlotted(n note.Note, draw api.Word) {
	w.t.Helper()
	memory := append(append(append([]byte("in front"), n.P...), n.Q...), "behind"...)
	p := memory[8:]
	n.P, n.Q = p[:len(n.P)], p[len(n.P):len(n.P)+len(n.Q)]
	before := string(memory)
	got := w.fits("Take", w.takeAs("ann", n, at, drawsOf(draw, 1)))
	if string(memory) != before {
		w.t.Errorf("kind %d: Take has written into its note", n.Kind)
	}
	parts := [][]byte{memory, got.n.P, got.n.Q, got.n.R}
	for i, part := range parts {
		want := make([]string, len(parts))
		for j, other := range parts {
			want[j] = string(other)
		}
		blot(part)
		for j, other := range parts {
			if j != i && string(other) != want[j] {
				w.t.Errorf("kind %d: parts %d and %d share memory", n.Kind, i, j)
			}
		}
		blot(part)
	}
	blot(parts...)
	clear(got.events[:cap(got.events)])
}

func TestNotesAreTheCallers(t *testing.T) { // R3: what is written into a note that was handed in, or into what was returned, changes nothing of what is answered later, nor the other way about
	w := watch(t)
	for range 3 {
		for _, y := range ways() {
			y.before(w, "ann", 1)
			w.takeBlotted(y.good("ann", 1), y.draw(1))
		}
		for _, i := range []int{onNS1, onNS4, onKSL1, onKSL3, onKSL5, onAgain1NS, onAgain3NS, onAgain1KSL, onAgain3KSL} { // each by what the one before has left
			w.takeBlotted(ways()[i].good("ann", 1), ways()[i].draw(1))
		}
	}
}

func TestBooksAreTheCallers(t *testing.T) { // R3: what is written into a book that was handed in changes nothing, and the host writes nothing into it
	w := watch(t)
	dead, alive := again1(api.NS, "ann", 1), again1(api.NS, "ann", 2)
	memory := []api.Word{host.Ticket(dead.Q), word(5), host.Ticket(alive.Q)}
	l := []book.Entry{{Name: "ann", Key: word(3)}, {Name: "bob", Key: word(4)}}
	w.books(book.Book{L: l, Revoked: memory[:2], Gen: gen, Own: word(2)})
	w.errs("revoked", w.take("ann", dead), api.ErrKey)
	w.fits("behind the end of the list", w.take("ann", alive))
	if !slices.Equal(l, []book.Entry{{Name: "ann", Key: word(3)}, {Name: "bob", Key: word(4)}}) || !slices.Equal(memory, []api.Word{host.Ticket(dead.Q), word(5), host.Ticket(alive.Q)}) {
		t.Error("the host has written into the book")
	}
	memory[0], memory[1] = memory[2], memory[2]
	l[0] = book.Entry{}
	w.errs("still revoked", w.take("ann", dead), api.ErrKey)
	w.fits("still not revoked", w.take("ann", alive))
}

func TestNilAndEmpty(t *testing.T) { // R2: bytes that are nil are as empty ones, in notes and books
	for _, none := range [][]byte{nil, {}, make([]byte, 0, 9)} {
		w := watch(t)
		w.books(book.Book{L: []book.Entry{}, Revoked: []api.Word{}, Gen: gen, Own: word(2)})
		w.begin(api.KSL, "ann", 1)
		n := ksl3("ann", 1)
		n.Q = none
		if got := w.fits("KSL3", w.take("kdc", n)); len(got.n.P) != 0 {
			t.Errorf("passed on: %x", got.n.P)
		}
		for kind, want := range map[int]api.Errno{note.NS4: api.ErrShort, note.KSL3: api.ErrShort, note.KSL5: api.ErrShort, note.Again1: api.ErrSeal, note.Again3: api.ErrState} {
			n := note.Note{Kind: kind, P: none}
			if kind != note.KSL5 && kind != note.Again3 {
				n.Q = none
			}
			if kind == note.Again1 {
				n.P = nil
			}
			w.errs("no bytes", w.take("ann", n), want)
		}
		if host.Ticket(none) != host.Ticket(nil) {
			t.Error("the words of no bytes differ")
		}
	}
}

// script is what a row of calls answers.
func script(t *testing.T, seed int64) string {
	var all strings.Builder
	w, c := watch(t), newChance(seed)
	for range 200 {
		_, got, _ := c.step(w)
		all.WriteString(got.told() + "\n")
	}
	return all.String()
}

func TestSameCallsSameAnswers(t *testing.T) { // R4: two hosts that are handed the same answer the same, whatever others were handed
	first, second, third := watch(t), watch(t), watchOf(t, "dan", word(1), life)
	third.books(book.Book{Gen: 1})
	for i := range 20 {
		peer := []string{"ann", "carol"}[i%2]
		for _, y := range ways() {
			third.takeWay(y, peer, peer, i+1)
			one, two := first.takeWay(y, peer, peer, i), second.takeWay(y, peer, peer, i)
			if one.told() != two.told() {
				t.Errorf("%s: %s and %s", y.what, one.told(), two.told())
			}
		}
		third.forget()
		third.clock(clock.Clock{})
	}
	for seed := range int64(5) {
		want := script(t, seed)
		script(t, seed+100)
		if script(t, seed) != want {
			t.Error("the same calls have other answers")
		}
	}
}

func TestTwoHosts(t *testing.T) { // R4: what one host has is not another's, of whatever name
	for _, name := range []string{"bob", "dan"} {
		w, idle := watch(t), watchOf(t, name, word(1), life)
		w.begin(api.NS, "ann", 1)
		w.begin(api.KSL, "ann", 2)
		w.wait("carol", 3)
		w.repeat(api.NS, "carol", 4)
		idle.errs("the clock", idle.take("ann", ns1("ann", 1)), api.ErrTime)
		idle.errs("the book", idle.take("ann", again1(api.KSL, "ann", 1)), api.ErrSeal)
		idle.clock(goodClock())
		idle.books(goodBook())
		idle.errs("NS4", idle.take("ann", ns4("ann", 1)), api.ErrState)
		idle.errs("KSL3", idle.take("ann", ksl3("ann", 2)), api.ErrState)
		idle.errs("KSL5", idle.take("carol", ksl5(3)), api.ErrState)
		idle.errs("Again3", idle.take("carol", again3(api.NS, 4)), api.ErrState)
		idle.forget()
		w.fits("NS4", w.take("ann", ns4("ann", 1)))
		w.fits("KSL3", w.take("ann", ksl3("ann", 2)))
		w.fits("KSL5", w.take("carol", ksl5(3)))
		w.fits("Again3", w.take("carol", again3(api.NS, 4)))
	}
}

func TestSeveralGoroutines(t *testing.T) { // R5: each with a host of its own
	want := make([]string, 8)
	for i := range want {
		want[i] = script(t, int64(i))
	}
	var group sync.WaitGroup
	for i := range 16 {
		group.Go(func() {
			if script(t, int64(i%8)) != want[i%8] {
				t.Error("other answers")
			}
		})
	}
	group.Wait()
}

func TestGreatArguments(t *testing.T) { // R7: names by the hundreds of millions of bytes, tickets too, books with many revoked tickets, many exchanges
	long := strings.Repeat("b", 1<<28)
	if h, err := host.New(long, word(1), life); h != nil || err != api.ErrArg {
		t.Errorf("New: error %d", err)
	}
	host.Ticket(make([]byte, 1<<25))
	w := watch(t)
	w.wait("ann", 1)
	w.repeat(api.NS, "ann", 1)
	for _, n := range []note.Note{ksl5(1), again3(api.NS, 1), again3(api.KSL, 1)} {
		to, reply, events, err := w.h.Take(long, n, at, [4]api.Word{})
		w.errs("from a long name", answer{to, reply, events, err}, api.ErrState)
	}
	revoked := make([]api.Word, 1<<20)
	for i := range revoked {
		revoked[i] = word(i)
	}
	dead := again1(api.NS, "ann", 2)
	revoked[len(revoked)-1] = host.Ticket(dead.Q)
	w.h.Books(book.Book{L: make([]book.Entry, 1<<20), Revoked: revoked, Gen: math.MaxInt, Own: word(2)})
	to, reply, events, err := w.h.Take("ann", dead, at, [4]api.Word{})
	w.errs("revoked", answer{to, reply, events, err}, api.ErrKey)
	w.books(goodBook())
	for i := range 100000 {
		if _, _, _, err := w.h.Take("x", ksl1(fmt.Sprint("p", i), i), at, [4]api.Word{mark(i)}); err != api.OK {
			t.Fatalf("KSL1 %d: error %d", i, err)
		}
	}
	for i, want := range map[int]api.Errno{0: api.ErrState, 99979: api.ErrState, 99980: api.OK, 99999: api.OK} {
		if _, _, _, err := w.h.Take("x", ksl3(fmt.Sprint("p", i), i), at, [4]api.Word{word(7)}); err != want {
			t.Errorf("KSL3 %d: error %d", i, err)
		}
	}
	w.fits("KSL5", w.take("ann", ksl5(1)))
}

func TestImports(t *testing.T) { // R6, and the map: host imports api, sha, clock, field, note, cache, book and kdc
	files, err := filepath.Glob("*.go")
	if err != nil || len(files) == 0 {
		t.Fatal("no files", err)
	}
	for _, name := range files {
		if strings.HasSuffix(name, "_test.go") {
			continue
		}
		file, err := parser.ParseFile(token.NewFileSet(), name, nil, parser.ImportsOnly)
		if err != nil {
			t.Fatal(err)
		}
		for _, i := range file.Imports {
			switch i.Path.Value {
			case `"bartizan/api"`, `"bartizan/sha"`, `"bartizan/clock"`, `"bartizan/field"`, `"bartizan/note"`, `"bartizan/cache"`, `"bartizan/book"`, `"bartizan/kdc"`, `"bytes"`, `"slices"`, `"strings"`:
			default:
				t.Errorf("%s imports %s", name, i.Path.Value)
			}
		}
	}
}
