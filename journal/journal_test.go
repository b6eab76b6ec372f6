package journal_test

import (
	"crypto/sha256"
	"encoding/hex"
	"go/ast"
	"go/parser"
	"go/token"
	"math"
	"math/rand"
	"path/filepath"
	"slices"
	"strconv"
	"strings"
	"sync"
	"testing"

	"bartizan/api"
	"bartizan/journal"
	"bartizan/store"
)

const (
	header   = 10
	mostRoom = 1 << 20
)

// enc is the encoding of a text, as the document's words have it.
func enc(text string) string {
	head := string([]byte{byte(len(text) / 256), byte(len(text) % 256)})
	digest := sha256.Sum256([]byte(head + text))
	return head + string(digest[:8]) + text
}

func encs(texts ...string) string {
	var all strings.Builder
	for _, text := range texts {
		all.WriteString(enc(text))
	}
	return all.String()
}

// readAs reads bytes as the document's words have it: the records, the bytes that these take, and whether one is corrupt.
func readAs(all string) (texts []string, whole string, corrupt bool) {
	for len(whole) < len(all) {
		rest := all[len(whole):]
		if len(rest) == 1 {
			return texts, whole, false
		}
		length := int(rest[0])*256 + int(rest[1])
		if length > 1000 {
			return nil, "", true
		}
		if len(rest) < header+length {
			return texts, whole, false
		}
		text := rest[header : header+length]
		if rest[:header+length] != enc(text) {
			return nil, "", true
		}
		texts = append(texts, text)
		whole += enc(text)
	}
	return texts, whole, false
}

// stored is a store with the bytes of a text, all durable.
func stored(t *testing.T, room int, text string) *store.Store {
	t.Helper()
	s, err := store.New(room)
	if err != api.OK {
		t.Fatalf("New(%d): error %d", room, err)
	}
	if err := s.Replace([]byte(text)); err != api.OK {
		t.Fatalf("Replace: error %d", err)
	}
	return s
}

// opened is the journal of s, where Open must not refuse.
func opened(t *testing.T, s *store.Store) *journal.Journal {
	t.Helper()
	j, err := journal.Open(s)
	if err != api.OK || j == nil {
		t.Fatalf("Open: error %d, a journal: %t", err, j != nil)
	}
	return j
}

// made is a journal of the texts, and its store.
func made(t *testing.T, room int, texts ...string) (*journal.Journal, *store.Store) {
	t.Helper()
	s := stored(t, room, encs(texts...))
	return opened(t, s), s
}

func bytesOf(texts ...string) [][]byte {
	var l [][]byte
	for _, text := range texts {
		l = append(l, []byte(text))
	}
	return l
}

func textsOf(l [][]byte) []string {
	var texts []string
	for _, b := range l {
		texts = append(texts, string(b))
	}
	return texts
}

// long is a text of so many bytes, unlike for every length.
func long(length int) string {
	start := strconv.Itoa(length) + " bytes:"
	return (start + strings.Repeat("abcdefghi", length/9+1))[:length]
}

// records: the journal's records are the texts.
func records(t *testing.T, j *journal.Journal, want ...string) {
	t.Helper()
	if got := textsOf(j.Records()); !slices.Equal(got, want) {
		t.Errorf("Records: %.60q (%d), want %.60q (%d)", got, len(got), want, len(want))
	}
}

// bytes: the store's bytes are those of the text.
func bytes(t *testing.T, s *store.Store, want string) {
	t.Helper()
	if got := string(s.Read()); got != want {
		t.Errorf("the store has %.60q (%d bytes), want %.60q (%d)", got, len(got), want, len(want))
	}
}

// holds: the journal's records are the texts, the store has their encodings alone, all durable, and they are there when it is opened anew. It ends the use of j.
func holds(t *testing.T, j *journal.Journal, s *store.Store, want ...string) {
	t.Helper()
	records(t, j, want...)
	bytes(t, s, encs(want...))
	s.Crash(0)
	bytes(t, s, encs(want...))
	records(t, opened(t, s), want...)
	bytes(t, s, encs(want...))
}

// answers: an error is that which is asked.
func answers(t *testing.T, words string, got, want api.Errno) {
	t.Helper()
	if got != want {
		t.Errorf("%s: error %d, want %d", words, got, want)
	}
}

// burnt: the fuse of s has so many calls left. It takes the power from s, and gives it back.
func burnt(t *testing.T, s *store.Store, left int) {
	t.Helper()
	for i := range left {
		if err := s.Append(nil); err != api.OK {
			t.Fatalf("call %d of a fuse with %d left: error %d", i, left, err)
		}
	}
	if err := s.Append(nil); err != api.ErrDown {
		t.Errorf("behind %d calls: error %d", left, err)
	}
	s.Crash(mostRoom)
}

// refuses: a broken journal calls nothing of its store, with power and without, and its records stay.
func refuses(t *testing.T, j *journal.Journal, s *store.Store) {
	t.Helper()
	want, before := textsOf(j.Records()), string(s.Read())
	for _, again := range []bool{false, true} {
		if again {
			s.Crash(mostRoom)
			s.Fuse(3)
		}
		for _, b := range bytesOf("", "a", long(1000), long(1001)) {
			answers(t, "Add to a broken journal", j.Add(b), api.ErrDown)
			answers(t, "Only of a broken journal", j.Only([][]byte{b}), api.ErrDown)
		}
		answers(t, "Only of nothing, of a broken journal", j.Only(nil), api.ErrDown)
		records(t, j, want...)
		bytes(t, s, before)
		if again {
			burnt(t, s, 3)
		}
	}
}

func TestExample(t *testing.T) { // P14.2: the chapter's example
	j, s := made(t, 100)
	answers(t, "Add of nothing", j.Add(nil), api.OK)
	if got := s.Read(); len(got) != 10 {
		t.Errorf("an empty record has %d bytes", len(got))
	}
}

func TestKnownEncodings(t *testing.T) { // P14.2: against openssl's digests
	for _, known := range []struct{ text, head string }{
		{"", "000096a296d224f285c6"},
		{"abc", "0003757f0dea9aa0c1f8"},
		{strings.Repeat("q", 256), "010055a2c85ddcc6b9e1"},
		{strings.Repeat("z", 1000), "03e8a0865aee8d71be44"},
	} {
		head, err := hex.DecodeString(known.head)
		if err != nil {
			t.Fatal(err)
		}
		j, s := made(t, 2000)
		answers(t, "Add", j.Add([]byte(known.text)), api.OK)
		bytes(t, s, string(head)+known.text)
		records(t, opened(t, stored(t, 2000, string(head)+known.text)), known.text)
	}
}

func TestOpen(t *testing.T) { // P14.1: of nil, of an empty store, and of stores with records, in order
	if j, err := journal.Open(nil); err != api.ErrArg || j != nil {
		t.Errorf("Open of nil: error %d, a journal: %t", err, j != nil)
	}
	for _, texts := range [][]string{
		nil, {""}, {"a"}, {"", ""}, {"b", "a", "b"}, {"", "x", "", "yz", ""}, {long(255), long(256), long(257)},
		{long(1000)}, {long(1000), "", long(1000), long(999)}, {"\x00", "\xff\xff", "\x03\xe9"}, {enc("a"), encs("a", "b")},
	} {
		s := stored(t, mostRoom, encs(texts...))
		j := opened(t, s)
		records(t, j, texts...)
		records(t, j, texts...) // and again
		records(t, opened(t, s), texts...)
		holds(t, j, s, texts...)
	}
	for length := range 1001 {
		j, s := made(t, 3000, "a", long(length), "b")
		holds(t, j, s, "a", long(length), "b")
	}
}

func TestOpenMany(t *testing.T) { // P14.1: as many records as the greatest store has room for
	texts := slices.Repeat([]string{""}, mostRoom/header)
	j, s := made(t, mostRoom, texts...)
	holds(t, j, s, texts...)
	texts = nil
	for i := range 1000 {
		texts = append(texts, long(i))
	}
	j, s = made(t, mostRoom, texts...)
	holds(t, j, s, texts...)
}

func TestOpenCallsNothing(t *testing.T) { // P14.1: without a torn rest, Open calls neither of Append, Sync and Replace
	for _, texts := range [][]string{nil, {"a"}, {"", long(1000)}} {
		s := stored(t, 3000, encs(texts...))
		s.Fuse(2)
		opened(t, s)
		burnt(t, s, 2)
		s.Fuse(0)
		records(t, opened(t, s), texts...) // the fuse is not seen
		s.Sync()
		j := opened(t, s) // nor is it that there is no power
		records(t, j, texts...)
		answers(t, "Add without power", j.Add(nil), api.ErrDown)
		refuses(t, j, s)
	}
	s := stored(t, 100, encs("a"))
	s.Append([]byte(enc("b"))) // read, and as durable as it was
	records(t, opened(t, s), "a", "b")
	s.Crash(0)
	records(t, opened(t, s), "a")
}

// tears: of a store with the bytes of a text the records are told, and the store has the bytes before the rest, all durable; once more it is the same, and what is added goes on behind it.
func tears(t *testing.T, text string, want ...string) {
	t.Helper()
	s := stored(t, 5000, text)
	j := opened(t, s)
	holds(t, j, s, want...)
	j = opened(t, s)
	answers(t, "Add behind a torn rest", j.Add([]byte("more")), api.OK)
	holds(t, j, s, append(slices.Clone(want), "more")...)

	unsynced := stored(t, 5000, "")
	unsynced.Append([]byte(text))
	unsynced.Fuse(5)
	holds(t, opened(t, unsynced), unsynced, want...)

	counted := stored(t, 5000, text)
	counted.Fuse(5)
	opened(t, counted)
	burnt(t, counted, 4) // Replace alone
}

// refusesOpen: Open of a store with the bytes of a text is ErrSum, and the store stays as it was.
func refusesOpen(t *testing.T, text string) {
	t.Helper()
	s := stored(t, 5000, text)
	s.Append([]byte{0}) // a torn rest behind it
	for range 2 {
		s.Fuse(2)
		if j, err := journal.Open(s); err != api.ErrSum || j != nil {
			t.Errorf("Open of %.30q: error %d, a journal: %t", text, err, j != nil)
		}
		bytes(t, s, text+"\x00")
	}
	s.Crash(0)
	bytes(t, s, text) // as durable as it was
	s.Fuse(0)
	if j, err := journal.Open(s); err != api.ErrSum || j != nil {
		t.Errorf("Open of %.30q with a fuse of 0: error %d, a journal: %t", text, err, j != nil)
	}
	s.Fuse(2)
	burnt(t, s, 2)
}

func TestOneByteLeft(t *testing.T) { // P14.1: torn, whichever it is
	for b := range 256 {
		for _, texts := range [][]string{nil, {"a"}, {"", "b"}, {long(1000)}} {
			tears(t, encs(texts...)+string([]byte{byte(b)}), texts...)
		}
	}
}

func TestTorn(t *testing.T) { // P14.1: a record of which bytes are missing, from one of them to all but one
	for _, texts := range [][]string{nil, {"a"}, {"", long(300)}} {
		for _, text := range []string{"", "x", long(12), long(255), long(256), long(999), long(1000)} {
			whole := enc(text)
			for left := 1; left < len(whole); left += 1 + left/40 {
				tears(t, encs(texts...)+whole[:left], texts...)
			}
			tears(t, encs(texts...)+whole[:len(whole)-1], texts...)
		}
	}
}

func TestTornWithAnyDigest(t *testing.T) { // P14.1: the digest is not asked while bytes are missing
	for _, text := range []string{"\x00\x00", "\x00\x01", "\x00\xff", "\x01\x00", "\x02\xff", "\x03\x00", "\x03\xe7", "\x03\xe8"} {
		length := int(text[0])*256 + int(text[1])
		for _, left := range []int{2, 3, 9, header, header + 1, header + length/2, header + length - 1} {
			if left >= header+length {
				continue
			}
			tears(t, text+strings.Repeat("\xff", left-2))
			tears(t, encs("a", "")+text+strings.Repeat("\x00", left-2), "a", "")
		}
	}
}

func TestLength(t *testing.T) { // P14.1: 1000 needs its bytes, 1001 and more are corrupt however few bytes are left
	for length := 995; length < 1<<16; length += 1 + (length/1100)*97 {
		head := string([]byte{byte(length >> 8), byte(length)})
		for _, text := range []string{head, head + "a", head + strings.Repeat("b", 7), head + strings.Repeat("c", 8), head + strings.Repeat("d", 980), enc(long(length))[:min(header+length-1, 2000)]} {
			if len(text) >= header+length {
				continue
			}
			if length <= 1000 {
				tears(t, text)
				tears(t, encs("a", "b")+text, "a", "b")
				continue
			}
			refusesOpen(t, text)
			refusesOpen(t, encs("a", "b")+text)
		}
	}
	for _, length := range []int{1001, 1002, 1023, 1024, 1256, 2000, 4000} {
		refusesOpen(t, enc(long(length))) // with a right digest, and all bytes
		refusesOpen(t, enc("a")+enc(long(length)))
		refusesOpen(t, enc(long(length))+enc("a"))
	}
}

func TestCorrupt(t *testing.T) { // P14.1: any byte of a digest or a record, in the first, a middle and the last one
	texts := []string{"abc", "", long(70), "q", "xyz"}
	for i := range texts {
		before, whole, behind := encs(texts[:i]...), enc(texts[i]), encs(texts[i+1:]...)
		for at := 2; at < len(whole); at++ {
			for _, by := range []byte{1, 2, 0x40, 0x80, 0xff} {
				turned := []byte(whole)
				turned[at] ^= by
				refusesOpen(t, before+string(turned)+behind)
			}
		}
	}
	for _, text := range []string{strings.Repeat("\x00", header), "\x00\x01" + enc("")[2:] + "a", "\x00\x00" + enc("a")[2:header]} {
		refusesOpen(t, text)
		refusesOpen(t, encs("a")+text+enc("b"))
	}
	other := sha256.Sum256([]byte("abc")) // of the record without its length
	refusesOpen(t, "\x00\x03"+string(other[:8])+"abc")
	refusesOpen(t, "\x00\x03"+enc("abc")[3:11]+"abc")
}

func TestCorruptLast(t *testing.T) { // P14.1: also where nothing is behind it, and where power is gone
	for _, texts := range [][]string{nil, {"a"}, {"a", ""}} {
		text := []byte(encs(append(slices.Clone(texts), "last")...))
		text[len(text)-1] ^= 1
		s := stored(t, 1000, string(text))
		for _, n := range []int{-1, 0} {
			s.Fuse(n)
			s.Sync()
			if j, err := journal.Open(s); err != api.ErrSum || j != nil {
				t.Errorf("error %d, a journal: %t", err, j != nil)
			}
			bytes(t, s, string(text))
		}
	}
}

func TestCorruptComesFirst(t *testing.T) { // P14.1: what is behind a corrupt record is not read, and nothing is cut off
	torn := enc("torn")[:12]
	bad := "\x00\x01" + enc("")[2:] + "a"
	refusesOpen(t, bad+torn)
	refusesOpen(t, encs("a")+bad+enc("b")+torn)
	refusesOpen(t, "\x03\xe9"+torn)
	refusesOpen(t, encs("a")+"\xff\xff")
	tears(t, encs("a")+"\x03\xe8"+bad, "a") // the bad one is within the torn one
}

// check: Open of bytes answers as the document's words have it.
func check(t *testing.T, text string) {
	t.Helper()
	want, whole, corrupt := readAs(text)
	s := stored(t, 5000, text)
	j, err := journal.Open(s)
	if corrupt {
		if err != api.ErrSum || j != nil || string(s.Read()) != text {
			t.Fatalf("Open of %q: error %d, a journal: %t", text, err, j != nil)
		}
		return
	}
	if err != api.OK || j == nil {
		t.Fatalf("Open of %q: error %d, a journal: %t", text, err, j != nil)
	}
	records(t, j, want...)
	bytes(t, s, whole)
}

func TestTurns(t *testing.T) { // P14.1: every byte of some records turned by every byte, lengths among them; and every cut of them
	for _, texts := range [][]string{{""}, {"a", "", "bcd"}, {long(30), "xyz", "", long(12)}} {
		text := encs(texts...)
		for at := range text {
			for by := range 256 {
				turned := []byte(text)
				turned[at] ^= byte(by)
				check(t, string(turned))
				check(t, string(turned[:at+1]))
			}
			check(t, text[:at])
		}
	}
}

func TestAnyBytes(t *testing.T) { // P14.1: bytes at random, with records among them
	r := rand.New(rand.NewSource(14))
	for range 20000 {
		text := ""
		for range r.Intn(4) {
			text += enc(long(r.Intn(20)))
		}
		junk := make([]byte, r.Intn(30))
		r.Read(junk)
		if len(junk) > 0 && r.Intn(2) == 0 {
			junk[0] = byte(r.Intn(4))
		}
		text += string(junk)
		for range r.Intn(3) {
			text += enc(long(r.Intn(20)))
		}
		check(t, text)
	}
}

func TestTornWithoutPower(t *testing.T) { // P14.1, R1: the error of Replace, beside no journal; the store stays
	for _, texts := range [][]string{nil, {"a"}, {"a", "", long(400)}} {
		for _, rest := range []string{"\x00", "\xff", "\x00\x00", enc("b")[:10], "\x03\xe8", enc(long(1000))[:1009]} {
			text := encs(texts...) + rest
			s := stored(t, 5000, text)
			s.Fuse(0)
			for range 3 {
				if j, err := journal.Open(s); err != api.ErrDown || j != nil {
					t.Errorf("error %d, a journal: %t", err, j != nil)
				}
				bytes(t, s, text)
			}
			s.Crash(0)
			bytes(t, s, text)
			s.Fuse(1)
			records(t, opened(t, s), texts...) // there is power for the one Replace
			bytes(t, s, encs(texts...))
			answers(t, "Add behind it", opened(t, s).Add(nil), api.ErrDown)
		}
	}
}

func TestAdd(t *testing.T) { // P14.2: of all lengths that the issue names, and their neighbours
	var texts []string
	j, s := made(t, 20000)
	for _, length := range []int{0, 1, 2, 10, 254, 255, 256, 257, 258, 511, 512, 513, 767, 768, 998, 999, 1000, 0, 1} {
		answers(t, "Add of "+strconv.Itoa(length), j.Add([]byte(long(length))), api.OK)
		texts = append(texts, long(length))
		records(t, j, texts...)
		bytes(t, s, encs(texts...))
		alone, its := made(t, 5000)
		answers(t, "Add of "+strconv.Itoa(length), alone.Add([]byte(long(length))), api.OK)
		holds(t, alone, its, long(length))
	}
	holds(t, j, s, texts...)
	j, s = made(t, 5000, "a", "")
	answers(t, "Add", j.Add([]byte("b")), api.OK)
	answers(t, "Add", j.Add([]byte("b")), api.OK) // as often as it is added
	holds(t, j, s, "a", "", "b", "b")
}

func TestAddTooLong(t *testing.T) { // P14.2, R1: ErrFull, without a call on the store; the journal goes on
	for _, length := range []int{1001, 1002, 1024, 2000, 1 << 16, 1<<16 + 1, 1<<16 + 1000, 1 << 20, 1<<24 + 5} {
		j, s := made(t, mostRoom, "a")
		s.Fuse(2)
		answers(t, "Add of "+strconv.Itoa(length), j.Add(make([]byte, length)), api.ErrFull)
		records(t, j, "a")
		burnt(t, s, 2)
		answers(t, "Add behind it", j.Add([]byte("b")), api.OK)
		holds(t, j, s, "a", "b")
		s.Fuse(0)
		answers(t, "Add without power of "+strconv.Itoa(length), j.Add(make([]byte, length)), api.ErrFull)
	}
}

func TestAddWithoutRoom(t *testing.T) { // P14.2: ErrFull, and the journal is not broken: a smaller record goes on
	for room := range 40 {
		j, s := made(t, room)
		for length := range room + 5 {
			want := api.OK
			if header+length > room {
				want = api.ErrFull
			}
			answers(t, "Add of "+strconv.Itoa(length)+" to a room of "+strconv.Itoa(room), j.Add(make([]byte, length)), want)
			answers(t, "Only of nothing", j.Only(nil), api.OK)
		}
		holds(t, j, s)
	}
	j, s := made(t, 50, "abc")
	answers(t, "Add", j.Add([]byte(long(28))), api.ErrFull)
	answers(t, "Add", j.Add([]byte(long(900))), api.ErrFull)
	records(t, j, "abc")
	bytes(t, s, enc("abc"))
	answers(t, "Add", j.Add([]byte("de")), api.OK)
	answers(t, "Add", j.Add([]byte(long(16))), api.ErrFull)
	answers(t, "Add", j.Add([]byte(long(15))), api.OK)
	answers(t, "Add", j.Add(nil), api.ErrFull)
	answers(t, "Only", j.Only(bytesOf("fg")), api.OK)
	answers(t, "Add", j.Add([]byte("h")), api.OK)
	holds(t, j, s, "fg", "h")
}

func TestAddWithoutRoomBurnsOne(t *testing.T) { // P14.2: Sync is not called behind an Append with an error, and it is behind one without
	j, s := made(t, 15)
	s.Fuse(3)
	answers(t, "Add", j.Add([]byte(long(6))), api.ErrFull)
	burnt(t, s, 2)
	s.Append([]byte("x"))
	answers(t, "Add", j.Add([]byte(long(5))), api.ErrFull)
	s.Crash(0) // what was appended beside the journal was not made durable
	bytes(t, s, "")
	s.Fuse(3)
	answers(t, "Add", j.Add([]byte(long(5))), api.OK)
	burnt(t, s, 1)
	holds(t, j, s, long(5))
}

func TestAppendWithoutPower(t *testing.T) { // P14.2, R1: ErrDown; the journal is broken, also once there is power again
	for _, texts := range [][]string{nil, {"a"}, {"", long(500)}} {
		for _, text := range []string{"", "b", long(1000)} {
			j, s := made(t, 3000, texts...)
			s.Fuse(0)
			answers(t, "Add", j.Add([]byte(text)), api.ErrDown)
			records(t, j, texts...)
			bytes(t, s, encs(texts...))
			refuses(t, j, s)
			holds(t, j, s, texts...)
		}
	}
}

func TestSyncWithoutPower(t *testing.T) { // P14.2, R1: ErrDown; broken, and the record is not among the journal's, though its bytes lie in the store
	for _, texts := range [][]string{nil, {"a"}, {"", long(500)}} {
		for _, text := range []string{"", "b", long(1000)} {
			j, s := made(t, 3000, texts...)
			s.Fuse(1)
			answers(t, "Add", j.Add([]byte(text)), api.ErrDown)
			records(t, j, texts...)
			bytes(t, s, encs(append(slices.Clone(texts), text)...))
			refuses(t, j, s)
			records(t, opened(t, s), append(slices.Clone(texts), text)...)

			j, s = made(t, 3000, texts...)
			s.Fuse(1)
			answers(t, "Add", j.Add([]byte(text)), api.ErrDown)
			s.Crash(0)
			answers(t, "Add with power again", j.Add([]byte(text)), api.ErrDown)
			answers(t, "Only with power again", j.Only(nil), api.ErrDown)
			holds(t, j, s, texts...)
		}
	}
}

func TestOnly(t *testing.T) { // P14.2: of none, one and many, behind none and many
	lists := [][]string{nil, {""}, {"a"}, {"", ""}, {"x", "", long(1000), long(256)}, {"b", "a", "b"}, {long(1000), long(999)}}
	for _, first := range lists {
		for _, second := range lists {
			j, s := made(t, 5000, first...)
			answers(t, "Only", j.Only(bytesOf(second...)), api.OK)
			holds(t, j, s, second...)
			j = opened(t, s)
			s.Append([]byte("junk")) // not the journal's
			s.Fuse(4)
			answers(t, "Only", j.Only(bytesOf(first...)), api.OK)
			burnt(t, s, 3) // Replace alone
			records(t, j, first...)
			bytes(t, s, encs(first...))
			answers(t, "Only of its own records", j.Only(j.Records()), api.OK)
			answers(t, "Add", j.Add([]byte("more")), api.OK)
			holds(t, j, s, append(slices.Clone(first), "more")...)
		}
	}
}

func TestOnlyTooLong(t *testing.T) { // P14.2, R1: one element is enough, at any place; without a call on the store
	for _, length := range []int{1001, 1002, 1 << 16, 1<<16 + 1000, 1 << 20} {
		for place := range 3 {
			l := bytesOf("x", long(1000), "")
			l[place] = make([]byte, length)
			j, s := made(t, 5000, "a", "b")
			s.Fuse(2)
			answers(t, "Only", j.Only(l), api.ErrFull)
			answers(t, "Only of it alone", j.Only(l[place:place+1]), api.ErrFull)
			records(t, j, "a", "b")
			burnt(t, s, 2)
			answers(t, "Add behind it", j.Add([]byte("c")), api.OK)
			holds(t, j, s, "a", "b", "c")
			s.Fuse(0)
			answers(t, "Only without power", j.Only(l), api.ErrFull)
		}
	}
}

func TestOnlyWithoutRoom(t *testing.T) { // P14.2, R1: ErrFull, and the journal is not broken
	for room := range 60 {
		j, s := made(t, room)
		for length := range room + 3 {
			want := api.OK
			if 2*header+length > room {
				want = api.ErrFull
			}
			answers(t, "Only of "+strconv.Itoa(length)+" to a room of "+strconv.Itoa(room), j.Only(bytesOf(long(length), "")), want)
		}
		if room >= 2*header {
			holds(t, j, s, long(room-2*header), "")
		} else {
			holds(t, j, s)
		}
	}
	j, s := made(t, 30, "abc", "d")
	answers(t, "Only", j.Only(bytesOf("", "", "", "")), api.ErrFull)
	s.Fuse(2)
	answers(t, "Only", j.Only(bytesOf(long(1000))), api.ErrFull)
	burnt(t, s, 1) // that Replace has been called
	records(t, j, "abc", "d")
	bytes(t, s, encs("abc", "d"))
	answers(t, "Add", j.Add([]byte("e")), api.ErrFull)
	answers(t, "Only", j.Only(bytesOf("", "", "")), api.OK)
	holds(t, j, s, "", "", "")
	j, s = made(t, mostRoom, "a")
	answers(t, "Only of many", j.Only(make([][]byte, 300000)), api.ErrFull)
	answers(t, "Only of many", j.Only(slices.Repeat(bytesOf(long(1000)), 5000)), api.ErrFull)
	holds(t, j, s, "a")
}

func TestOnlyWithoutPower(t *testing.T) { // P14.2, R1: ErrDown, before a lack of room; broken
	for _, l := range [][][]byte{nil, bytesOf("x"), bytesOf("a", "b"), bytesOf(long(900), long(900))} {
		j, s := made(t, 1000, "a", "b")
		s.Fuse(0)
		answers(t, "Only", j.Only(l), api.ErrDown)
		records(t, j, "a", "b")
		refuses(t, j, s)
		holds(t, j, s, "a", "b")
	}
}

func TestBrokenIsSeenFirst(t *testing.T) { // P14.2: a broken journal answers ErrDown, whatever it is given; one that is not broken has its store asked
	j, s := made(t, 100, "a")
	s.Fuse(0)
	answers(t, "Add too long", j.Add(make([]byte, 1001)), api.ErrFull) // no call on the store, so not broken
	answers(t, "Only too long", j.Only([][]byte{make([]byte, 1001)}), api.ErrFull)
	s.Fuse(-1)
	answers(t, "Add", j.Add([]byte("b")), api.OK)
	s.Fuse(0)
	s.Sync() // not the journal's call: it is not broken by that
	s.Crash(0)
	answers(t, "Add", j.Add([]byte("c")), api.OK)
	s.Fuse(0)
	answers(t, "Add without room or power", j.Add([]byte(long(99))), api.ErrDown)
	refuses(t, j, s)
	holds(t, j, s, "a", "b", "c")
}

func TestOpenedBesideABroken(t *testing.T) { // P14.2: a broken journal stays so while another one of its store goes on
	j, s := made(t, 100, "a")
	s.Fuse(1)
	answers(t, "Add", j.Add([]byte("b")), api.ErrDown)
	s.Crash(4)
	second := opened(t, s)
	answers(t, "Add", second.Add([]byte("c")), api.OK)
	answers(t, "Add to the broken one", j.Add([]byte("d")), api.ErrDown)
	records(t, j, "a")
	holds(t, second, s, "a", "c")
}

func TestNotFromOpen(t *testing.T) { // P0: no call panics; there are no records, and no store
	for _, j := range []*journal.Journal{nil, {}} {
		records(t, j)
		answers(t, "Add", j.Add([]byte("a")), api.ErrDown)
		answers(t, "Add too long", j.Add(make([]byte, 1001)), api.ErrDown)
		answers(t, "Only", j.Only(bytesOf("a")), api.ErrDown)
		answers(t, "Only of none", j.Only(nil), api.ErrDown)
		records(t, j)
	}
}

// act is a call of Add, or of Only if only is set.
type act struct {
	only  bool
	texts []string
}

func (a act) on(j *journal.Journal) api.Errno {
	if a.only {
		return j.Only(bytesOf(a.texts...))
	}
	return j.Add([]byte(a.texts[0]))
}

// behind is the records behind an act that returned OK.
func (a act) behind(texts []string) []string {
	if a.only {
		return a.texts
	}
	return append(slices.Clone(texts), a.texts...)
}

// runs is all sequences of n of the acts.
func runs(acts []act, n int) [][]act {
	if n == 0 {
		return [][]act{nil}
	}
	var l [][]act
	for _, shorter := range runs(acts, n-1) {
		for _, a := range acts {
			l = append(l, append(slices.Clone(shorter), a))
		}
	}
	return l
}

// crashes does a run with a fuse and a crash, and tells the records that must be there then.
func crashes(t *testing.T, run []act, fuse, kept int) (*store.Store, []string) {
	t.Helper()
	j, s := made(t, 55)
	s.Fuse(fuse)
	var confirmed []string
	for i, a := range run {
		before := string(s.Read())
		err := a.on(j)
		switch err {
		case api.OK:
			confirmed = a.behind(confirmed)
			continue
		case api.ErrFull:
			continue
		case api.ErrDown:
		default:
			t.Fatalf("act %d: error %d", i, err)
		}
		records(t, j, confirmed...)
		for _, later := range run[i:] {
			answers(t, "an act behind it", later.on(j), api.ErrDown)
		}
		unsynced := len(s.Read()) - len(before)
		s.Crash(kept)
		if unsynced > 0 && kept >= unsynced { // the one that was in progress was kept whole
			confirmed = a.behind(confirmed)
		}
		return s, confirmed
	}
	s.Crash(kept)
	return s, confirmed
}

func TestCrashes(t *testing.T) { // P14.3: every run of some acts, with every fuse, and every number of bytes that a crash keeps
	acts := []act{{false, []string{""}}, {false, []string{"abc"}}, {false, []string{long(12)}}, {true, nil}, {true, []string{"de", ""}}, {true, []string{long(46)}}}
	for length := 1; length <= 4; length++ {
		for _, run := range runs(acts, length) {
			for fuse := range 2*length + 1 { // an act makes two calls on the store at most
				for kept := 0; kept <= 25; kept++ {
					if length == 4 && kept%5 > 2 {
						continue
					}
					s, want := crashes(t, run, fuse, kept)
					goesOn(t, s, want)
				}
			}
		}
	}
}

// goesOn: what opens has the records, and nothing else; opened once more it is the same, and what is added goes on behind it.
func goesOn(t *testing.T, s *store.Store, want []string) {
	t.Helper()
	j := opened(t, s)
	records(t, j, want...)
	bytes(t, s, encs(want...))
	s.Crash(0)
	j = opened(t, s)
	records(t, j, want...)
	if len(s.Read())+header+1 > 55 {
		return
	}
	answers(t, "Add behind a crash", j.Add([]byte("+")), api.OK)
	holds(t, j, s, append(slices.Clone(want), "+")...)
}

func TestCrashAtOpen(t *testing.T) { // P14.3: also while Open cuts the torn rest off, again and again
	for kept := 1; kept < header+3; kept++ {
		s, want := crashes(t, []act{{false, []string{"a"}}, {false, []string{"b"}}, {false, []string{"xyz"}}}, 5, kept)
		torn := string(s.Read())
		for again := range 4 {
			s.Fuse(0)
			if j, err := journal.Open(s); err != api.ErrDown || j != nil {
				t.Errorf("error %d, a journal: %t", err, j != nil)
			}
			bytes(t, s, torn)
			s.Crash(again)
		}
		goesOn(t, s, want)
	}
}

// twin is what the document's words make of a journal: its records, and a store with the calls that it makes.
type twin struct {
	texts  []string
	broken bool
	store  *store.Store
}

func (w *twin) heed(err api.Errno) api.Errno {
	w.broken = w.broken || err == api.ErrDown
	return err
}

func (w *twin) do(a act) api.Errno {
	if w.broken {
		return api.ErrDown
	}
	for _, text := range a.texts {
		if len(text) > 1000 {
			return api.ErrFull
		}
	}
	if a.only {
		if err := w.store.Replace([]byte(encs(a.texts...))); err != api.OK {
			return w.heed(err)
		}
	} else {
		if err := w.store.Append([]byte(enc(a.texts[0]))); err != api.OK {
			return w.heed(err)
		}
		if err := w.store.Sync(); err != api.OK {
			return w.heed(err)
		}
	}
	w.texts = a.behind(w.texts)
	return api.OK
}

// open tells the error of an opened journal, and has it take the place of the one before if there is none.
func (w *twin) open() api.Errno {
	texts, whole, corrupt := readAs(string(w.store.Read()))
	if corrupt {
		return api.ErrSum
	}
	if whole != string(w.store.Read()) {
		if err := w.store.Replace([]byte(whole)); err != api.OK {
			return err
		}
	}
	w.texts, w.broken = texts, false
	return api.OK
}

func anyText(r *rand.Rand) string {
	switch r.Intn(12) {
	case 0:
		return long(1001 + r.Intn(3))
	case 1:
		return long(990 + r.Intn(11))
	case 2:
		return long(250 + r.Intn(10))
	default:
		return long(r.Intn(20))
	}
}

func anyAct(r *rand.Rand) act {
	a := act{only: r.Intn(6) == 0}
	n := 1
	if a.only {
		n = r.Intn(5)
	}
	for range n {
		a.texts = append(a.texts, anyText(r))
	}
	return a
}

// changeBoth does to both stores what is done beside a journal: fuses, crashes and turns.
func changeBoth(r *rand.Rand, a, b *store.Store) {
	n, at, by := r.Intn(30)-1, r.Intn(1+len(a.Read())), byte(1<<r.Intn(8))
	for _, s := range []*store.Store{a, b} {
		switch n {
		case -1:
			s.Turn(at, by)
		case 0, 1, 2:
			s.Fuse(n)
		case 3, 4:
			s.Crash(at)
		case 5:
			s.Fuse(3 + int(by)%7)
		}
	}
}

func TestLongRuns(t *testing.T) { // P14.1 to P14.3: against the document's words, with a store that is called as these say
	for seed := range 60 {
		r := rand.New(rand.NewSource(int64(seed)))
		room := []int{60, 300, 3000, mostRoom}[seed%4]
		j, s := made(t, room)
		w := &twin{store: stored(t, room, "")}
		for step := range 400 {
			changeBoth(r, s, w.store)
			if r.Intn(5) == 0 {
				next, err := journal.Open(s)
				if want := w.open(); err != want || (next != nil) != (want == api.OK) {
					t.Fatalf("seed %d, step %d, Open: error %d, want %d", seed, step, err, want)
				}
				if next != nil {
					j = next
				}
			} else {
				a := anyAct(r)
				if err, want := a.on(j), w.do(a); err != want {
					t.Fatalf("seed %d, step %d, %v: error %d, want %d", seed, step, a.only, err, want)
				}
			}
			if got := textsOf(j.Records()); !slices.Equal(got, w.texts) || string(s.Read()) != string(w.store.Read()) {
				t.Fatalf("seed %d, step %d: %d records, want %d", seed, step, len(got), len(w.texts))
			}
			if len(s.Read()) > 1<<16 {
				j.Only(nil)
				w.do(act{only: true})
			}
		}
	}
}

func TestGreatRecords(t *testing.T) { // R7: records by the hundreds of millions of bytes are too long
	great := make([]byte, 1<<29)
	j, s := made(t, mostRoom, "a")
	answers(t, "Add", j.Add(great), api.ErrFull)
	answers(t, "Only", j.Only([][]byte{nil, great, great}), api.ErrFull)
	answers(t, "Add", j.Add(great[:math.MaxInt16]), api.ErrFull)
	holds(t, j, s, "a")
}

func TestNoneIsNil(t *testing.T) { // R2: a record with nil bytes is as one with none, and so is a list
	for _, none := range [][]byte{nil, {}, make([]byte, 0, 9), []byte("abc")[:0]} {
		j, s := made(t, 100)
		answers(t, "Add", j.Add(none), api.OK)
		answers(t, "Add", j.Add(none), api.OK)
		records(t, j, "", "")
		bytes(t, s, encs("", ""))
		answers(t, "Only", j.Only([][]byte{none, []byte("a"), none}), api.OK)
		holds(t, j, s, "", "a", "")
	}
	for _, none := range [][][]byte{nil, {}, make([][]byte, 0, 9), bytesOf("a")[:0]} {
		j, s := made(t, 100, "a")
		answers(t, "Only", j.Only(none), api.OK)
		holds(t, j, s)
		j, s = made(t, 100, "a")
		s.Fuse(0)
		answers(t, "Only without power", j.Only(none), api.ErrDown)
	}
}

// scribble writes over the bytes, and over what is behind their end, as far as their memory goes.
func scribble(b []byte) {
	all := b[:cap(b)]
	for i := range all {
		all[i] = '#'
	}
}

// scribbleAll writes over the bytes of a list, and then over the list.
func scribbleAll(l [][]byte) {
	all := l[:cap(l)]
	for i := range all {
		scribble(all[i])
		all[i] = []byte("#")
	}
}

func TestArgumentsAreNotKept(t *testing.T) { // R3: what is written into the bytes after Add or Only changes nothing
	for _, length := range []int{1, 3, 100, 1000} {
		j, s := made(t, 9000)
		b := []byte(long(length))
		answers(t, "Add", j.Add(b), api.OK)
		answers(t, "Add", j.Add(b[:length/2]), api.OK)
		scribble(b)
		records(t, j, long(length), long(length)[:length/2])
		answers(t, "Add", j.Add([]byte("x")), api.OK)
		holds(t, j, s, long(length), long(length)[:length/2], "x")

		j, s = made(t, 9000)
		b = []byte(long(length))
		l := [][]byte{b, b[:length/3], b, []byte("end")}
		answers(t, "Only", j.Only(l), api.OK)
		answers(t, "Add", j.Add([]byte("y")), api.OK)
		scribbleAll(l)
		scribble(b)
		holds(t, j, s, long(length), long(length)[:length/3], long(length), "end", "y")
	}
}

func TestArgumentsStay(t *testing.T) { // R3: nothing is written into what was handed in, nor behind its end
	b := []byte("abcdefghij")
	l := [][]byte{b[2:4], b[5:6], b[:3], make([]byte, 1001), nil}
	j, s := made(t, 200)
	for range 3 {
		answers(t, "Add", j.Add(b[2:5]), api.OK)
		answers(t, "Only", j.Only(l[:2]), api.OK)
		answers(t, "Add", j.Add(b[5:7]), api.OK)
		answers(t, "Only", j.Only(l), api.ErrFull)
		answers(t, "Only", j.Only(append(j.Records(), l[:3]...)), api.OK)
		answers(t, "Add", j.Add([]byte("#####")), api.OK)
		scribbleAll(j.Records())
		s.Turn(12, 255)
	}
	if string(b) != "abcdefghij" || len(l) != 5 || len(l[3]) != 1001 || l[4] != nil {
		t.Errorf("the bytes became %s", b)
	}
	if got := textsOf(l[:3]); !slices.Equal(got, []string{"cd", "f", "abc"}) {
		t.Errorf("the list became %q", got)
	}
}

func TestResultsAreTheCallers(t *testing.T) { // R3: what is written into what Records returned changes no record, nor what a later call returns
	texts := []string{"abc", "", long(1000), "x", "x"}
	made1 := func() (*journal.Journal, *store.Store) { return made(t, 5000, texts...) }
	made2 := func() (*journal.Journal, *store.Store) {
		j, s := made(t, 5000)
		answers(t, "Only", j.Only(bytesOf(texts...)), api.OK)
		return j, s
	}
	made3 := func() (*journal.Journal, *store.Store) {
		j, s := made(t, 5000)
		for _, text := range texts {
			answers(t, "Add", j.Add([]byte(text)), api.OK)
		}
		return j, s
	}
	for _, by := range []func() (*journal.Journal, *store.Store){made1, made2, made3} {
		j, s := by()
		first, second := j.Records(), j.Records()
		scribbleAll(first)
		if !slices.Equal(textsOf(second), texts) {
			t.Error("what was returned changed by what was written into another")
		}
		records(t, j, texts...)
		for i := range second { // none of them shares memory with the one behind it
			rest := textsOf(second[i+1:])
			scribble(second[i])
			_ = append(second[i], "and more than that"...)
			if !slices.Equal(textsOf(second[i+1:]), rest) {
				t.Errorf("what was written into record %d changed another", i)
			}
		}
		_ = append(second, []byte("one more"))
		records(t, j, texts...)
		answers(t, "Add", j.Add([]byte("y")), api.OK)
		holds(t, j, s, append(slices.Clone(texts), "y")...)
	}
}

func TestRecordsStay(t *testing.T) { // R3: what later calls do is not seen in what Records returned; the store is not asked again
	j, s := made(t, 100, "a", "bc")
	l := j.Records()
	s.Turn(11, 255)
	records(t, j, "a", "bc")
	s.Replace(nil)
	records(t, j, "a", "bc")
	answers(t, "Add", j.Add([]byte("d")), api.OK)
	answers(t, "Only", j.Only(bytesOf("x", "yz", "w", "v")), api.OK)
	answers(t, "Only", j.Only(bytesOf("1")), api.OK)
	if !slices.Equal(textsOf(l), []string{"a", "bc"}) {
		t.Errorf("what was returned became %q", l)
	}
	holds(t, j, s, "1")
}

func TestTwoJournals(t *testing.T) { // R4: on two stores they do not touch each other
	a, its := made(t, 100, "a")
	b, others := made(t, 30, "a")
	shared := []byte("cd")
	answers(t, "Add", a.Add(shared), api.OK)
	answers(t, "Add", b.Add(shared), api.OK)
	its.Fuse(0)
	answers(t, "Add", a.Add(shared), api.ErrDown)
	records(t, b, "a", "cd")
	answers(t, "Add to the other", b.Add(shared), api.ErrFull)
	answers(t, "Only of the other", b.Only([][]byte{shared}), api.OK)
	records(t, a, "a", "cd")
	answers(t, "Only of the one that is broken", a.Only(b.Records()), api.ErrDown)
	if _, err := journal.Open(nil); err != api.ErrArg {
		t.Errorf("error %d", err)
	}
	holds(t, b, others, "cd")
	holds(t, a, its, "a", "cd")
}

// script is the answers of the same calls on a store and a journal of its own, as one text.
func script(t *testing.T) string {
	r := rand.New(rand.NewSource(41))
	j, s := made(t, 2500)
	var told strings.Builder
	for range 300 {
		changeBoth(r, s, stored(t, 0, ""))
		if r.Intn(4) == 0 {
			next, err := journal.Open(s)
			told.WriteString("open " + strconv.Itoa(int(err)))
			if err == api.OK {
				j = next
			}
		} else {
			told.WriteString("act " + strconv.Itoa(int(anyAct(r).on(j))))
		}
		told.WriteString(strings.Join(textsOf(j.Records()), ",") + " " + string(s.Read()) + "\n")
	}
	return told.String()
}

func TestSameCallsSameAnswers(t *testing.T) { // R4: and nothing of what is done to other journals
	want := script(t)
	for range 20 {
		j, s := made(t, 100, "a")
		s.Fuse(1)
		answers(t, "Add", j.Add([]byte("b")), api.ErrDown)
		if script(t) != want {
			t.Fatal("other answers of the same calls")
		}
		records(t, j, "a")
	}
}

func TestSeveralGoroutines(t *testing.T) { // R5: each with a journal of its own
	want := script(t)
	var group sync.WaitGroup
	for range 8 {
		group.Go(func() {
			if script(t) != want {
				t.Error("other answers in a goroutine")
			}
		})
	}
	group.Wait()
}

func TestImports(t *testing.T) { // R6, and the map: journal imports api, sha and store
	files, err := filepath.Glob("*.go")
	if err != nil || len(files) == 0 {
		t.Fatal("no files", err)
	}
	for _, name := range files {
		if strings.HasSuffix(name, "_test.go") {
			continue
		}
		file, err := parser.ParseFile(token.NewFileSet(), name, nil, 0)
		if err != nil {
			t.Fatal(err)
		}
		ast.Inspect(file, func(node ast.Node) bool {
			i, ok := node.(*ast.ImportSpec)
			if ok && strings.Contains(i.Path.Value, "bartizan") && !slices.Contains([]string{`"bartizan/api"`, `"bartizan/sha"`, `"bartizan/store"`}, i.Path.Value) {
				t.Errorf("%s imports %s", name, i.Path.Value)
			}
			return true
		})
	}
}
