package book_test

import (
	"crypto/sha256"
	"fmt"
	"go/ast"
	"go/parser"
	"go/token"
	"math/rand"
	"path/filepath"
	"reflect"
	"slices"
	"strconv"
	"strings"
	"sync"
	"testing"

	"bartizan/api"
	"bartizan/book"
	"bartizan/journal"
	"bartizan/store"
)

const mostRoom = 1 << 20

// record is the record of a text in a journal, as the words of journal's document have it.
func record(text string) string {
	head := string([]byte{byte(len(text) / 256), byte(len(text) % 256)})
	digest := sha256.Sum256([]byte(head + text))
	return head + string(digest[:8]) + text
}

// recs is the records of operations, valid or not.
func recs(ops ...book.Op) string {
	var all strings.Builder
	for _, x := range ops {
		all.WriteString(record(enc(x)))
	}
	return all.String()
}

// stored is a store with the bytes of a text, all durable.
func stored(t *testing.T, room int, text string) *store.Store {
	t.Helper()
	s, err := store.New(room)
	if err != api.OK {
		t.Fatalf("New(%d): error %d", room, err)
	}
	if err := s.Replace([]byte(text)); err != api.OK {
		t.Fatalf("Replace: error %d", err)
	}
	return s
}

// opened is the keep of s, where Open must not refuse.
func opened(t *testing.T, s *store.Store) *book.Keep {
	t.Helper()
	k, err := book.Open(s)
	if err != api.OK || k == nil {
		t.Fatalf("Open: error %d, a keep: %t", err, k != nil)
	}
	return k
}

// made is a keep of operations that lie in its store.
func made(t *testing.T, room int, ops ...book.Op) (*book.Keep, *store.Store) {
	t.Helper()
	s := stored(t, room, recs(ops...))
	return opened(t, s), s
}

// refuses: Open of a store is an error, and no keep.
func refuses(t *testing.T, what string, s *store.Store, want api.Errno) {
	t.Helper()
	if k, err := book.Open(s); err != want || k != nil {
		t.Errorf("Open of %s: error %d, a keep: %t; want %d", what, err, k != nil, want)
	}
}

// answers: an error is that which is asked.
func answers(t *testing.T, what string, got, want api.Errno) {
	t.Helper()
	if got != want {
		t.Errorf("%s: error %d, want %d", what, got, want)
	}
}

// bytes: the store's bytes are those of the text.
func bytes(t *testing.T, s *store.Store, want string) {
	t.Helper()
	if got := string(s.Read()); got != want {
		t.Errorf("the store has %.80q (%d bytes), want %.80q (%d)", got, len(got), want, len(want))
	}
}

// burnt: the fuse of s has so many calls left. It takes the power from s, and gives it back.
func burnt(t *testing.T, s *store.Store, left int) {
	t.Helper()
	for i := range left {
		if err := s.Append(nil); err != api.OK {
			t.Fatalf("call %d of a fuse with %d left: error %d", i, left, err)
		}
	}
	if err := s.Append(nil); err != api.ErrDown {
		t.Errorf("behind %d calls: error %d", left, err)
	}
	s.Crash(mostRoom)
}

// holds: the keep's book is that which is asked, and so is that of a keep that is opened anew behind a crash. It ends the use of k.
func holds(t *testing.T, k *book.Keep, s *store.Store, want book.Book) {
	t.Helper()
	is(t, "the book", k.Book(), want)
	s.Crash(0)
	is(t, "the book that is opened anew", opened(t, s).Book(), want)
}

// validLists is operations that have no errors when they are applied to the empty book, in order.
func validLists() [][]book.Op {
	var full []book.Op
	for i, name := range names(50) {
		full = append(full, add(name, i))
	}
	for i := range 200 {
		full = append(full, revoke(i))
	}
	return [][]book.Op{
		nil,
		{add("ann", 1)},
		{{Kind: 1, Name: "zero"}},
		{revoke(1)},
		{next(1, 1)},
		{next(mostGen, 1)},
		{add("ann", 1), remove("ann")},
		{add("ann", 1), remove("ann"), add("ann", 2), rekey("ann", 3)},
		{add("ann", 1), add("bob", 2), revoke(1), next(3, 3), remove("ann"), add("cy", 1), revoke(2), rekey("bob", 4), next(4, 5)},
		full,
		append(slices.Clone(full), remove("p1"), add("new", 9), rekey("p50", 8), next(7, 7)),
	}
}

func TestOpen(t *testing.T) { // P15.3: of nil, of an empty store, and of stores with operations; nothing of the store is called
	if k, err := book.Open(nil); err != api.ErrArg || k != nil {
		t.Errorf("Open of nil: error %d, a keep: %t", err, k != nil)
	}
	for _, ops := range validLists() {
		want := after(t, book.Book{}, ops...)
		s := stored(t, len(recs(ops...)), recs(ops...))
		s.Fuse(2)
		k := opened(t, s)
		burnt(t, s, 2)
		is(t, "the book", k.Book(), want)
		bytes(t, s, recs(ops...))
		s.Fuse(0)
		is(t, "the book of a store without power", opened(t, s).Book(), want)
		s.Append(nil)
		is(t, "the book of a store without power", opened(t, s).Book(), want)
		holds(t, k, s, want)
	}
}

func TestOpenMany(t *testing.T) { // P15.3: about as many operations as the greatest store has room for
	var ops []book.Op
	for gen := 1; gen <= 6000; gen++ {
		ops = append(ops, add("ann", 1), rekey("ann", gen), next(gen, gen), remove("ann"))
	}
	k, s := made(t, mostRoom, ops...)
	is(t, "the book", k.Book(), book.Book{Gen: 6000, Own: key(6000)})
	ops[len(ops)-1] = add("ann", 1)
	s.Replace([]byte(recs(ops...)))
	refuses(t, "an Add of one that is there, behind thousands", s, api.ErrSum)
}

func TestOpenNoEncoding(t *testing.T) { // P15.3: records that are no encodings of valid operations, at any place; the store stays as it was
	var texts []string
	for _, x := range validOps() {
		texts = append(texts, enc(x)+"\x00", enc(x)[:len(enc(x))-1], enc(x)[1:], enc(x)+enc(x), "\x00"+enc(x))
	}
	for _, x := range []book.Op{
		{}, {Kind: 1}, {Kind: 1, Name: "ann", Gen: 1}, {Kind: 1, Name: "Ann"}, {Kind: 1, Name: strings.Repeat("a", 21)}, {Kind: 2, Name: "bob", Key: key(1)}, {Kind: 3, Name: "bob", Gen: 1},
		{Kind: 4, Name: "ann", Key: key(9)}, {Kind: 4, Key: key(9), Gen: 1}, {Kind: 5}, {Kind: 5, Gen: -1}, {Kind: 5, Gen: mostGen + 1}, {Kind: 5, Name: "a", Gen: 9}, {Kind: 6, Name: "ann"}, {Kind: 255, Key: key(1)},
	} {
		texts = append(texts, enc(x))
	}
	texts = append(texts, "", "\x01", "\x04", "abc", strings.Repeat("\x00", 31), strings.Repeat("x", 1000))
	before, behind := []book.Op{add("bob", 1), revoke(1)}, []book.Op{next(2, 2), add("cy", 3)}
	for _, text := range texts {
		for _, all := range []string{record(text), recs(before...) + record(text), record(text) + recs(behind...), recs(before...) + record(text) + recs(behind...), record(text) + record(text)} {
			s := stored(t, 5000, all)
			s.Fuse(2)
			refuses(t, strconv.Quote(text), s, api.ErrSum)
			burnt(t, s, 2)
			bytes(t, s, all)
		}
	}
}

func TestOpenErrorOfAnOperation(t *testing.T) { // P15.3: each error that an operation can have on the book before it
	full := validLists()[9]
	for _, c := range []struct {
		before []book.Op
		bad    book.Op
	}{
		{nil, remove("ann")},
		{nil, rekey("ann", 1)},
		{[]book.Op{add("ann", 1)}, add("ann", 1)},
		{[]book.Op{add("ann", 1)}, add("ann", 2)},
		{[]book.Op{add("ann", 1)}, remove("bob")},
		{[]book.Op{add("ann", 1)}, rekey("bob", 1)},
		{[]book.Op{add("ann", 1), remove("ann")}, remove("ann")},
		{[]book.Op{add("ann", 1), remove("ann")}, rekey("ann", 2)},
		{[]book.Op{revoke(1), revoke(2)}, revoke(1)},
		{[]book.Op{next(5, 1)}, next(5, 2)},
		{[]book.Op{next(5, 1)}, next(4, 1)},
		{full[:50], add("new", 1)},
		{full, revoke(999)},
	} {
		good := after(t, book.Book{}, c.before...)
		is(t, "the book before", opened(t, stored(t, mostRoom, recs(c.before...))).Book(), good)
		for _, behind := range [][]book.Op{nil, {next(9, 9)}, {remove("ann"), remove("ann")}} {
			all := recs(c.before...) + recs(c.bad) + recs(behind...)
			s := stored(t, mostRoom, all)
			s.Fuse(2)
			refuses(t, fmt.Sprint(c.bad), s, api.ErrSum)
			burnt(t, s, 2)
			bytes(t, s, all)
		}
	}
}

func TestOpenCorrupt(t *testing.T) { // P15.3: the error of journal.Open, for any bit of the records; or the book of those before a torn one
	ops := []book.Op{add("ann", 1), revoke(2), next(3, 3), remove("ann")}
	text := recs(ops...)
	for at := range text {
		for bit := range 8 {
			turned := []byte(text)
			turned[at] ^= 1 << bit
			s, other := stored(t, 1000, string(turned)), stored(t, 1000, string(turned))
			j, err := journal.Open(other)
			if err != api.OK {
				refuses(t, "a corrupt journal", s, api.ErrSum)
				bytes(t, s, string(turned))
				continue
			}
			is(t, "the book", opened(t, s).Book(), after(t, book.Book{}, ops[:len(j.Records())]...))
			bytes(t, s, recs(ops[:len(j.Records())]...))
		}
	}
	s := stored(t, 1000, recs(add("ann", 1), add("ann", 2))+"\xff\xff")
	refuses(t, "a corrupt journal, with an error of an operation before", s, api.ErrSum)
}

func TestOpenTorn(t *testing.T) { // P15.3: without the operation that was cut, and with what is done behind it
	ops := []book.Op{add("ann", 1), revoke(2), next(3, 3)}
	for many := range len(ops) {
		last := recs(ops[many])
		for left := range len(last) {
			s := stored(t, 1000, recs(ops[:many]...)+last[:left])
			k := opened(t, s)
			want := after(t, book.Book{}, ops[:many]...)
			is(t, "the book", k.Book(), want)
			bytes(t, s, recs(ops[:many]...))
			answers(t, "Do", k.Do(ops[many]), api.OK)
			holds(t, k, s, after(t, want, ops[many]))
		}
	}
}

func TestOpenWithoutPower(t *testing.T) { // P15.3: the error of the store, where a torn rest is to be cut off; also before that of a record
	for _, text := range []string{"", recs(add("ann", 1)), recs(add("ann", 1), add("ann", 1)), record("none")} {
		for _, rest := range []string{"\x00", "\xff", recs(remove("ann"))[:20]} {
			s := stored(t, 1000, text+rest)
			s.Fuse(0)
			for range 2 {
				refuses(t, "a store without power", s, api.ErrDown)
				bytes(t, s, text+rest)
			}
			s.Crash(0)
			want := api.ErrSum
			if text == "" || text == recs(add("ann", 1)) {
				want = api.OK
			}
			if _, err := book.Open(s); err != want {
				t.Errorf("with power again: error %d, want %d", err, want)
			}
		}
	}
}

func TestDo(t *testing.T) { // P15.3: each kind without an error: two calls of the store, one record more, and the book behind it
	before := []book.Op{add("ann", 1), add("bob", 2), revoke(1), next(3, 3)}
	for _, x := range []book.Op{
		add("cy", 4), {Kind: 1, Name: strings.Repeat("z", 20)}, remove("ann"), remove("bob"), rekey("ann", 9), {Kind: 3, Name: "bob"},
		rekey("ann", 1), revoke(4), {Kind: 4}, next(4, 4), {Kind: 5, Gen: mostGen},
	} {
		k, s := made(t, 2000, before...)
		want := after(t, after(t, book.Book{}, before...), x)
		s.Fuse(5)
		answers(t, fmt.Sprint("Do of ", x), k.Do(x), api.OK)
		burnt(t, s, 3)
		is(t, "the book", k.Book(), want)
		bytes(t, s, recs(append(slices.Clone(before), x)...))
		holds(t, k, s, want)
	}
}

func TestDoAll(t *testing.T) { // P15.3: lists of operations, one by one from the empty book
	for _, ops := range validLists() {
		k, s := made(t, mostRoom)
		var want book.Book
		for i, x := range ops {
			answers(t, fmt.Sprint("Do of ", x), k.Do(x), api.OK)
			want = after(t, want, x)
			is(t, "the book", k.Book(), want)
			if i%10 == 0 {
				is(t, "the book that is opened beside it", opened(t, s).Book(), want)
			}
		}
		bytes(t, s, recs(ops...))
		holds(t, k, s, want)
	}
}

// wrongs is operations with each error of Apply, on a book with 50 entries, 200 revoked tickets and Gen 7.
func wrongs() map[api.Errno][]book.Op {
	return map[api.Errno][]book.Op{
		api.ErrTwice: {add("p1", 1), add("p50", 99), revoke(1), revoke(200), next(7, 1), next(6, 1), next(1, 9)},
		api.ErrFull:  {add("new", 1), revoke(201), {Kind: 4}},
		api.ErrName:  {remove("new"), rekey("new", 1)},
		api.ErrForm:  {{}, {Kind: 6}, {Kind: -1, Name: "p1"}, {Kind: 257, Name: "new"}, {Kind: 1}, {Kind: 1, Name: "p1", Gen: 1}, {Kind: 2, Name: "p1", Key: key(1)}, {Kind: 3, Name: "P1"}, {Kind: 4, Name: "p1"}, {Kind: 5, Gen: 8, Name: "p1"}, {Kind: 5, Gen: mostGen + 1}},
	}
}

func TestDoErrors(t *testing.T) { // P15.3, R1: each error of Apply comes first; nothing is added to the journal, and no store is called
	b := great(50, 200)
	all := recs(book.Ops(b)...)
	k, s := made(t, mostRoom, book.Ops(b)...)
	small := opened(t, stored(t, len(all), all)) // without room
	broken, its := made(t, mostRoom, book.Ops(b)...)
	its.Fuse(0)
	answers(t, "Do without power", broken.Do(remove("p1")), api.ErrDown)
	for want, ops := range wrongs() {
		for _, x := range ops {
			what := fmt.Sprint("Do of ", x)
			s.Fuse(2)
			answers(t, what, k.Do(x), want)
			burnt(t, s, 2)
			s.Fuse(0)
			answers(t, what+" without power", k.Do(x), want)
			s.Fuse(-1)
			bytes(t, s, all)
			is(t, "the book", k.Book(), b)
			answers(t, what+" without room", small.Do(x), want)
			answers(t, what+" of a keep whose journal is broken", broken.Do(x), want)
		}
	}
	answers(t, "Do behind all of them", k.Do(next(8, 80)), api.OK)
	holds(t, k, s, after(t, b, next(8, 80)))
	is(t, "the book of the broken one", broken.Book(), b)
}

func TestDoWithoutRoom(t *testing.T) { // P15.3, R1: ErrFull of the journal; the book is as it was, and shorter operations go on
	for room := range 70 {
		k, s := made(t, room)
		for length := range 20 {
			name := strings.Repeat("n", length+1)
			want, b := api.OK, book.Book{L: entries(name)}
			if 10+31+len(name) > room {
				want, b = api.ErrFull, book.Book{}
			}
			answers(t, "Do with a room of "+strconv.Itoa(room), k.Do(add(name, 1)), want)
			is(t, "the book", k.Book(), b)
			if want == api.OK {
				answers(t, "a second one", k.Do(remove(name)), api.ErrFull)
				is(t, "the book", k.Book(), b)
				holds(t, k, s, b)
				k, s = made(t, room)
			}
		}
	}
	k, s := made(t, 41+41+42, revoke(1))
	answers(t, "Do", k.Do(add(strings.Repeat("n", 20), 1)), api.OK)
	answers(t, "Do", k.Do(add("a", 2)), api.ErrFull)
	s.Fuse(3)
	answers(t, "Do", k.Do(revoke(2)), api.ErrFull)
	burnt(t, s, 2) // Append alone
	holds(t, k, s, book.Book{L: entries(strings.Repeat("n", 20)), Revoked: words(1)})
	k, s = made(t, 41+41+42, revoke(1), revoke(2))
	answers(t, "Do", k.Do(add("nn", 1)), api.ErrFull)
	answers(t, "Do", k.Do(add("n", 1)), api.OK)
	holds(t, k, s, book.Book{L: entries("n"), Revoked: words(2)})
}

// down: the keep's journal is broken, with power and without; its book stays, and errors of Apply come first.
func down(t *testing.T, k *book.Keep, s *store.Store) {
	t.Helper()
	b := k.Book()
	for range 2 {
		all := string(s.Read())
		answers(t, "Do of a broken one", k.Do(add("more", 1)), api.ErrDown)
		answers(t, "Do of a broken one", k.Do(revoke(77)), api.ErrDown)
		answers(t, "Do of a broken one, not valid", k.Do(book.Op{}), api.ErrForm)
		answers(t, "Do of a broken one, with an error", k.Do(remove("more")), api.ErrName)
		answers(t, "Pack of a broken one", k.Pack(), api.ErrDown)
		is(t, "the book", k.Book(), b)
		bytes(t, s, all)
		s.Crash(0)
	}
}

func TestDoWithoutPower(t *testing.T) { // P15.3, R1: ErrDown of Append and of Sync; the book is as it was
	before := []book.Op{add("ann", 1), revoke(1), next(3, 3)}
	b := after(t, book.Book{}, before...)
	for _, x := range []book.Op{add("bob", 2), remove("ann"), rekey("ann", 2), revoke(2), next(4, 4)} {
		for fuse := range 2 {
			k, s := made(t, 1000, before...)
			s.Fuse(fuse)
			answers(t, "Do", k.Do(x), api.ErrDown)
			is(t, "the book", k.Book(), b)
			down(t, k, s)
			holds(t, k, s, b)
		}
		k, s := made(t, 1000, before...)
		s.Fuse(1)
		answers(t, "Do", k.Do(x), api.ErrDown)
		s.Crash(mostRoom) // keeps the record
		is(t, "the book", k.Book(), b)
		is(t, "the book that is opened anew", opened(t, s).Book(), after(t, b, x))
	}
	k, s := made(t, 10)
	s.Fuse(0)
	answers(t, "Do without power or room", k.Do(revoke(1)), api.ErrDown)
	down(t, k, s)
}

func TestPack(t *testing.T) { // P15.3: one call of the store, and the encodings of Ops alone; the book is as it was
	for _, ops := range validLists() {
		k, s := made(t, mostRoom, ops...)
		b := after(t, book.Book{}, ops...)
		for range 2 {
			s.Fuse(3)
			answers(t, "Pack", k.Pack(), api.OK)
			burnt(t, s, 2)
			is(t, "the book", k.Book(), b)
			bytes(t, s, recs(book.Ops(b)...))
		}
		answers(t, "Do behind Pack", k.Do(next(mostGen, 1)), map[bool]api.Errno{true: api.ErrTwice, false: api.OK}[b.Gen == mostGen])
		if b.Gen < mostGen {
			b = after(t, b, next(mostGen, 1))
		}
		holds(t, k, s, b)
	}
}

func TestPackMakesRoom(t *testing.T) { // P15.3: for operations of which the book tells nothing any more
	k, s := made(t, 200, next(1, 1), next(2, 2), add("ann", 1), remove("ann"))
	answers(t, "Do", k.Do(next(3, 3)), api.ErrFull)
	answers(t, "Pack", k.Pack(), api.OK)
	bytes(t, s, recs(next(2, 2)))
	answers(t, "Do", k.Do(next(3, 3)), api.OK)
	holds(t, k, s, book.Book{Gen: 3, Own: key(3)})
	k, s = made(t, 10000)
	var b book.Book
	for gen := 1; gen < 2000; gen++ {
		err := k.Do(next(gen, gen))
		if err == api.ErrFull {
			answers(t, "Pack", k.Pack(), api.OK)
			err = k.Do(next(gen, gen))
		}
		answers(t, "Do", err, api.OK)
		b = book.Book{Gen: gen, Own: key(gen)}
		is(t, "the book", k.Book(), b)
	}
	holds(t, k, s, b)
}

func TestPackWithoutPower(t *testing.T) { // P15.3: ErrDown; the book and the store are as they were
	for _, ops := range validLists() {
		k, s := made(t, mostRoom, ops...)
		b := after(t, book.Book{}, ops...)
		s.Fuse(0)
		answers(t, "Pack", k.Pack(), api.ErrDown)
		is(t, "the book", k.Book(), b)
		bytes(t, s, recs(ops...))
		s.Crash(0)
		answers(t, "Pack with power again", k.Pack(), api.ErrDown)
		if len(b.L) < 50 {
			down(t, k, s)
		}
		holds(t, k, s, b)
	}
}

func TestPackNeedsNoRoom(t *testing.T) { // P15.3: also in a store that is full to its last byte
	for _, ops := range validLists() {
		k, s := made(t, len(recs(ops...)), ops...)
		b := after(t, book.Book{}, ops...)
		answers(t, "Pack", k.Pack(), api.OK)
		bytes(t, s, recs(book.Ops(b)...))
		holds(t, k, s, b)
	}
}

func TestPromoted(t *testing.T) { // the methods of the journal, which a keep embeds
	var _ interface {
		Add([]byte) api.Errno
		Only([][]byte) api.Errno
		Records() [][]byte
	} = (*book.Keep)(nil)
	embeds := false
	for _, f := range reflect.VisibleFields(reflect.TypeFor[book.Keep]()) {
		embeds = embeds || f.Anonymous && (f.Type == reflect.TypeFor[*journal.Journal]() || f.Type == reflect.TypeFor[journal.Journal]())
	}
	if !embeds {
		t.Error("a keep does not embed its journal")
	}
	ops := validLists()[8]
	k, s := made(t, 2000, ops...)
	isRecords(t, k, ops)
	answers(t, "Do", k.Do(revoke(9)), api.OK)
	isRecords(t, k, append(slices.Clone(ops), revoke(9)))
	b := k.Book()
	answers(t, "Pack", k.Pack(), api.OK)
	isRecords(t, k, book.Ops(b))
	answers(t, "Add to the journal", k.Add([]byte(enc(revoke(10)))), api.OK)
	is(t, "the book", k.Book(), b)
	is(t, "the book that is opened anew", opened(t, s).Book(), after(t, b, revoke(10)))
	answers(t, "Only of the journal", k.Only(nil), api.OK)
	is(t, "the book", k.Book(), b)
	is(t, "the book that is opened anew", opened(t, s).Book(), book.Book{})
}

func isRecords(t *testing.T, k *book.Keep, ops []book.Op) {
	t.Helper()
	got := k.Records()
	if !slices.EqualFunc(got, ops, func(b []byte, x book.Op) bool { return string(b) == enc(x) }) {
		t.Errorf("the records are %.200q, want those of %.200v", got, ops)
	}
}

func TestNotFromOpen(t *testing.T) { // P0: no call panics; there is an empty book, and no journal
	for _, k := range []*book.Keep{nil, {}} {
		is(t, "the book", k.Book(), book.Book{})
		answers(t, "Do", k.Do(add("ann", 1)), api.ErrDown)
		answers(t, "Do of what is not valid", k.Do(book.Op{}), api.ErrForm)
		answers(t, "Do with an error", k.Do(remove("ann")), api.ErrName)
		answers(t, "Pack", k.Pack(), api.ErrDown)
		is(t, "the book", k.Book(), book.Book{})
	}
}

// act is an operation to do, or, with none, a Pack.
type act struct{ op book.Op }

func (a act) packs() bool { return a.op == book.Op{} }

func (a act) on(k *book.Keep) api.Errno {
	if a.packs() {
		return k.Pack()
	}
	return k.Do(a.op)
}

// behind is the book behind an act, and what it must answer while there is power and room.
func (a act) behind(b book.Book) (book.Book, api.Errno) {
	if a.packs() {
		return b, api.OK
	}
	return book.Apply(b, a.op)
}

// runs is all sequences of n of the acts.
func runs(acts []act, n int) [][]act {
	if n == 0 {
		return [][]act{nil}
	}
	var l [][]act
	for _, shorter := range runs(acts, n-1) {
		for _, a := range acts {
			l = append(l, append(slices.Clone(shorter), a))
		}
	}
	return l
}

// crashes does a run with a fuse and a crash, and tells the book that must be there then. (That Apply is right, other tests ask.)
func crashes(t *testing.T, run []act, fuse, kept int) (*store.Store, book.Book) {
	t.Helper()
	k, s := made(t, 1000)
	s.Fuse(fuse)
	var b book.Book
	for i, a := range run {
		before := len(s.Read())
		err := a.on(k)
		changed, want := a.behind(b)
		if err != api.ErrDown || want != api.OK {
			answers(t, fmt.Sprint(a), err, want)
			b = changed
			continue
		}
		for _, later := range run[i:] {
			if _, want := later.behind(b); want == api.OK {
				answers(t, "an act behind it", later.on(k), api.ErrDown)
			}
		}
		if told(k.Book()) != told(b) {
			t.Fatalf("the book became %s", told(k.Book()))
		}
		unsynced := len(s.Read()) - before
		s.Crash(kept)
		if unsynced > 0 && kept >= unsynced { // the one that was in progress was kept whole
			b = changed
		}
		return s, b
	}
	s.Crash(kept)
	return s, b
}

func TestCrashes(t *testing.T) { // P15.4: every run of some acts, with every fuse, and any number of bytes that a crash keeps
	acts := []act{{add("a", 1)}, {add("bcd", 2)}, {remove("a")}, {rekey("a", 3)}, {revoke(1)}, {next(2, 4)}, {next(3, 5)}, {}}
	for length := 1; length <= 4; length++ {
		for i, run := range runs(acts, length) {
			for fuse := range 2*length + 1 { // an act makes two calls of the store at most
				for _, kept := range keptBytes(length, i+fuse) {
					s, want := crashes(t, run, fuse, kept)
					k := opened(t, s)
					if told(k.Book()) != told(want) {
						t.Fatalf("%v, fuse %d, kept %d: the book is %s, want %s", run, fuse, kept, told(k.Book()), told(want))
					}
					if i%50 == 0 {
						goesOn(t, k, s, want)
					}
				}
			}
		}
	}
}

// keptBytes is how many bytes are kept: any number for short runs; for long ones, which are many, a few of them.
func keptBytes(length, turn int) []int {
	if length == 4 {
		return []int{turn % 41, 41 + turn%4}
	}
	all := []int{-1, mostRoom}
	for kept := range 46 {
		if length < 3 || kept >= 41 || (kept+turn)%9 == 0 {
			all = append(all, kept)
		}
	}
	return all
}

// goesOn: what is done behind a crash lasts, too, and so does a Pack.
func goesOn(t *testing.T, k *book.Keep, s *store.Store, want book.Book) {
	t.Helper()
	answers(t, "Do behind a crash", k.Do(revoke(99)), api.OK)
	answers(t, "Pack behind a crash", k.Pack(), api.OK)
	answers(t, "Do behind a crash", k.Do(next(99, 9)), api.OK)
	holds(t, k, s, after(t, want, revoke(99), next(99, 9)))
}

func TestCrashAtOpen(t *testing.T) { // P15.4: also while Open cuts the torn rest off, again and again
	for kept := 1; kept < 43; kept++ {
		s, want := crashes(t, []act{{add("a", 1)}, {add("b", 2)}, {add("xyz", 3)}}, 5, kept)
		for again := range 3 {
			s.Fuse(0)
			refuses(t, "a store without power", s, api.ErrDown)
			s.Crash(again)
		}
		k := opened(t, s)
		is(t, "the book", k.Book(), want)
		goesOn(t, k, s, want)
	}
}

// model is what the document's words make of a keep: a twin of its book, and a store with the calls that its journal makes.
type model struct {
	book   *twin
	store  *store.Store
	broken bool
}

func (m *model) do(a act) api.Errno {
	changed := m.book.clone()
	if !a.packs() {
		if err := changed.do(a.op); err != api.OK {
			return err
		}
	}
	if m.broken {
		return api.ErrDown
	}
	err := m.write(a)
	m.broken = err == api.ErrDown
	if err == api.OK {
		m.book = changed
	}
	return err
}

func (m *model) write(a act) api.Errno {
	if a.packs() {
		return m.store.Replace([]byte(recs(m.book.ops()...)))
	}
	if err := m.store.Append([]byte(recs(a.op))); err != api.OK {
		return err
	}
	return m.store.Sync()
}

// open makes the model anew, of what its store has. No byte there was turned.
func (m *model) open(t *testing.T) {
	t.Helper()
	m.book, m.broken = newTwin(), false
	all, at := string(m.store.Read()), 0
	for at+2 <= len(all) {
		end := at + 10 + int(all[at])*256 + int(all[at+1])
		if end > len(all) {
			break
		}
		x, ok := readAs(all[at+10 : end])
		if !ok || m.book.do(x) != api.OK {
			t.Fatalf("the store has a record of %v", x)
		}
		at = end
	}
	if at < len(all) {
		answers(t, "Replace", m.store.Replace([]byte(all[:at])), api.OK)
	}
}

func TestLongRunsOfKeeps(t *testing.T) { // P15.3, P15.4, P5: with fuses, crashes and packs, against the document's words
	met := map[api.Errno]int{}
	for seed := range 32 {
		r := rand.New(rand.NewSource(int64(seed)))
		room := []int{300, 3000, 12000, mostRoom}[seed%4]
		k, s := made(t, room)
		m := &model{book: newTwin(), store: stored(t, room, "")}
		for step := range 500 {
			if n := r.Intn(9); r.Intn(15) == 0 {
				s.Fuse(n)
				m.store.Fuse(n)
			}
			a := act{anyOp(r, []int{5, 70}[seed%2])}
			if r.Intn(20) == 0 {
				a = act{}
			}
			before := m.book.clone()
			err := a.on(k)
			if want := m.do(a); err != want {
				t.Fatalf("seed %d, step %d, %v: error %d, want %d", seed, step, a, err, want)
			}
			met[err]++
			agrees(t, k, s, m)
			if err == api.ErrDown || r.Intn(50) == 0 {
				k = recovers(t, r.Intn(60), s, m)
				done := before.clone()
				done.do(a.op)
				if got := told(k.Book()); got != told(before.book()) && got != told(done.book()) {
					t.Errorf("seed %d, step %d: behind the crash the book is %.200s", seed, step, got)
				}
			}
			b := k.Book()
			if b.Gen < before.gen || slices.ContainsFunc(before.revoked, func(ticket api.Word) bool { return !book.Dead(b, ticket) }) {
				t.Fatalf("seed %d, step %d: Gen became less, or a ticket counts again", seed, step)
			}
		}
	}
	for _, err := range []api.Errno{api.OK, api.ErrForm, api.ErrName, api.ErrTwice, api.ErrFull, api.ErrDown} {
		if met[err] < 100 {
			t.Errorf("error %d was met %d times", err, met[err])
		}
	}
}

// agrees: the book and the store of a keep are those of its model.
func agrees(t *testing.T, k *book.Keep, s *store.Store, m *model) {
	t.Helper()
	bytes(t, s, string(m.store.Read()))
	if told(k.Book()) != told(m.book.book()) {
		t.Fatalf("the book is %.200s, want %.200s", told(k.Book()), told(m.book.book()))
	}
}

// recovers crashes a store, and opens it anew, and its model, too.
func recovers(t *testing.T, kept int, s *store.Store, m *model) *book.Keep {
	t.Helper()
	s.Crash(kept)
	m.store.Crash(kept)
	m.open(t)
	k := opened(t, s)
	agrees(t, k, s, m)
	return k
}

func TestBookIsTheCallers(t *testing.T) { // R3: what is written into what Book returned, or Records, changes nothing else
	for _, ops := range validLists() {
		k, s := made(t, mostRoom, ops...)
		want := after(t, book.Book{}, ops...)
		first, second := k.Book(), k.Book()
		scribble(first)
		is(t, "what was returned before", second, want)
		is(t, "the book", k.Book(), want)
		_ = append(second.L, book.Entry{Name: "more"})
		_ = append(second.Revoked, key(888))
		for _, b := range k.Records() {
			for i := range b {
				b[i] = '#'
			}
		}
		is(t, "the book", k.Book(), want)
		if len(want.L) < 50 {
			answers(t, "Do", k.Do(add("more1", 1)), api.OK)
			answers(t, "Do", k.Do(revoke(777)), api.OK)
			answers(t, "Do", k.Do(add("more2", 1)), api.OK)
			is(t, "what was returned before", second, want) // later calls do not show in it
			want = after(t, want, add("more1", 1), revoke(777), add("more2", 1))
		} else {
			answers(t, "Do", k.Do(remove("p7")), api.OK)
			answers(t, "Do", k.Do(rekey("p8", 999)), api.OK)
			is(t, "what was returned before", second, want)
			want = after(t, want, remove("p7"), rekey("p8", 999))
		}
		scribble(k.Book())
		answers(t, "Pack", k.Pack(), api.OK)
		holds(t, k, s, want)
	}
}

func TestTwoKeeps(t *testing.T) { // R4: on two stores they do not touch each other
	ops := validLists()[8]
	b := after(t, book.Book{}, ops...)
	first, its := made(t, 2000, ops...)
	second, others := made(t, len(recs(ops...)), ops...)
	answers(t, "Do", first.Do(rekey("bob", 7)), api.OK)
	answers(t, "Do", first.Do(remove("cy")), api.OK)
	is(t, "the other book", second.Book(), b)
	answers(t, "Do of the other", second.Do(remove("cy")), api.ErrFull)
	answers(t, "Pack of the other", second.Pack(), api.OK)
	its.Fuse(0)
	answers(t, "Do without power", first.Do(revoke(99)), api.ErrDown)
	answers(t, "Do of the other", second.Do(revoke(99)), api.OK)
	if _, err := book.Open(nil); err != api.ErrArg {
		t.Errorf("error %d", err)
	}
	holds(t, first, its, after(t, b, rekey("bob", 7), remove("cy")))
	holds(t, second, others, after(t, b, revoke(99)))
}

// script is the answers of the same calls on a store and a keep of its own, as one text.
func script(t *testing.T) string {
	r := rand.New(rand.NewSource(44))
	k, s := made(t, 4000)
	var all strings.Builder
	for range 300 {
		switch r.Intn(12) {
		case 0:
			s.Fuse(r.Intn(5))
		case 1:
			s.Crash(r.Intn(50))
			next, err := book.Open(s)
			all.WriteString("open " + strconv.Itoa(int(err)))
			if err == api.OK {
				k = next
			}
		case 2:
			all.WriteString("pack " + strconv.Itoa(int(k.Pack())))
		default:
			all.WriteString("do " + strconv.Itoa(int(k.Do(anyOp(r, 60)))))
		}
		all.WriteString(told(k.Book()) + toldOps(book.Ops(k.Book())) + string(s.Read()) + "\n")
	}
	return all.String()
}

func TestSameCallsSameAnswers(t *testing.T) { // R4: and nothing of what is done to other keeps
	want := script(t)
	for range 5 {
		k, s := made(t, 100, add("ann", 1))
		s.Fuse(1)
		answers(t, "Do", k.Do(remove("ann")), api.ErrDown)
		if script(t) != want {
			t.Fatal("other answers of the same calls")
		}
		is(t, "the book", k.Book(), book.Book{L: entries("ann")})
	}
}

func TestSeveralGoroutines(t *testing.T) { // R5: each with a keep of its own; the functions with one book
	want := script(t)
	b := great(49, 199)
	before := told(b)
	var group sync.WaitGroup
	for i := range 8 {
		group.Go(func() {
			if script(t) != want {
				t.Error("other answers in a goroutine")
			}
			for _, x := range shareOps() {
				changed, _ := book.Apply(b, x)
				scribble(changed)
			}
			ops := book.Ops(b)
			ops[i] = book.Op{}
			if _, ok := book.Key(b, "p49"); !ok || !book.Dead(b, key(199)) || !book.Same(b, b) {
				t.Error("another book in a goroutine")
			}
		})
	}
	group.Wait()
	if told(b) != before {
		t.Error("the book changed")
	}
}

func TestImports(t *testing.T) { // R6, and the map: book imports api, field, store and journal
	files, err := filepath.Glob("*.go")
	if err != nil || len(files) == 0 {
		t.Fatal("no files", err)
	}
	for _, name := range files {
		if strings.HasSuffix(name, "_test.go") {
			continue
		}
		file, err := parser.ParseFile(token.NewFileSet(), name, nil, 0)
		if err != nil {
			t.Fatal(err)
		}
		ast.Inspect(file, func(node ast.Node) bool {
			i, ok := node.(*ast.ImportSpec)
			if ok && strings.Contains(i.Path.Value, "bartizan") && !slices.Contains([]string{`"bartizan/api"`, `"bartizan/field"`, `"bartizan/store"`, `"bartizan/journal"`}, i.Path.Value) {
				t.Errorf("%s imports %s", name, i.Path.Value)
			}
			return true
		})
	}
}
