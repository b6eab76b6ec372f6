package kdc_test

import (
	"fmt"
	"go/parser"
	"go/token"
	"math"
	"math/rand"
	"path/filepath"
	"regexp"
	"slices"
	"strconv"
	"strings"
	"sync"
	"testing"

	"bartizan/api"
	"bartizan/book"
	"bartizan/kdc"
	"bartizan/note"
)

var isName = regexp.MustCompile(`\A[a-z0-9]{1,20}\z`).MatchString

// people is a book of the names; the key of the first one is word(1), and so on.
func people(names ...string) book.Book {
	var b book.Book
	for i, name := range names {
		b.L = append(b.L, book.Entry{Name: name, Key: word(i + 1)})
	}
	return b
}

// three is draws: the new key, and two counters.
func three() [3]api.Word { return [3]api.Word{word(70), word(71), word(72)} }

// ns2 is what a responder asks, with fields sealed for that by a key.
func ns2(b string, key api.Word, texts ...string) note.Note {
	return note.Note{Kind: note.NS2, B: b, P: []byte(locked(key, "ns2", word(60), encoded(texts...))), Y: word(61)}
}

// asks is an NS2 as it should be: bob, with the key word(2), asks for ann.
func asks() note.Note { return ns2("bob", word(2), "ann", text(word(62)), number(1000)) }

func ksl2(a, b string) note.Note {
	return note.Note{Kind: note.KSL2, A: a, X: word(63), B: b, Y: word(64)}
}

func told(n note.Note) string {
	return fmt.Sprintf("%d %q %q %x %x %x %x %x", n.Kind, n.A, n.B, n.X, n.Y, n.P, n.Q, n.R)
}

func toldBook(b book.Book) string {
	return fmt.Sprintf("%q %x gen %d own %x", b.L, b.Revoked, b.Gen, b.Own)
}

// keyAs is the key of the first entry with a name.
func keyAs(b book.Book, name string) (api.Word, bool) {
	for _, e := range b.L {
		if e.Name == name {
			return e.Key, true
		}
	}
	return api.Word{}, false
}

// answerAs is the answer, as the document's words have it.
func answerAs(b book.Book, n note.Note, draws [3]api.Word) (string, note.Note, api.Errno) {
	k := text(draws[0])
	keyB, hasB := keyAs(b, n.B)
	switch n.Kind {
	case note.NS2:
		if !hasB {
			return "", note.Note{}, api.ErrName
		}
		texts, err := partsAs(keyB, "ns2", string(n.P), 3)
		if err != api.OK {
			return "", note.Note{}, err
		}
		a, na, t := texts[0], texts[1], texts[2]
		if !isName(a) || len(na) != 16 || len(t) != 8 {
			return "", note.Note{}, api.ErrForm
		}
		if a == n.B {
			return "", note.Note{}, api.ErrArg
		}
		keyA, hasA := keyAs(b, a)
		if !hasA {
			return "", note.Note{}, api.ErrName
		}
		p := sealedAs(keyA, "ns3", draws[1], n.B, na, k, t)
		q := sealedAs(keyB, "nst", draws[2], a, k, t)
		return a, note.Note{Kind: 3, P: []byte(p), Q: []byte(q), Y: n.Y}, api.OK
	case note.KSL2:
		if n.A == n.B {
			return "", note.Note{}, api.ErrArg
		}
		keyA, hasA := keyAs(b, n.A)
		if !hasA || !hasB {
			return "", note.Note{}, api.ErrName
		}
		p := sealedAs(keyB, "k3b", draws[1], text(n.Y), n.A, k)
		q := sealedAs(keyA, "k3a", draws[2], text(n.X), n.B, k)
		return n.B, note.Note{Kind: 8, P: []byte(p), Q: []byte(q)}, api.OK
	}
	return "", note.Note{}, api.ErrState
}

// answers: Answer is as the document's words have it, and changes nothing; its error is handed back.
func answers(t *testing.T, what string, b book.Book, n note.Note, draws [3]api.Word) api.Errno {
	t.Helper()
	if !note.Right(n) {
		t.Fatalf("%s: a note that is not valid: %s", what, told(n))
	}
	before, bookBefore := told(n), toldBook(b)
	wantTo, want, wantErr := answerAs(b, n, draws)
	to, got, err := kdc.Answer(b, n, draws)
	if to != wantTo || told(got) != told(want) || err != wantErr {
		t.Errorf("%s: to %q, error %d, %.200s; want %q, %d, %.200s", what, to, err, told(got), wantTo, wantErr, told(want))
	}
	if told(n) != before || toldBook(b) != bookBefore {
		t.Errorf("%s: an argument was changed", what)
	}
	if err == api.OK && !note.Right(got) {
		t.Errorf("%s: the answer is not valid: %s", what, told(got))
	}
	return err
}

// refuses: Answer has an error, and nothing beside it (R1).
func refuses(t *testing.T, what string, b book.Book, n note.Note, want api.Errno) {
	t.Helper()
	if err := answers(t, what, b, n, three()); err != want {
		t.Errorf("%s: error %d, want %d", what, err, want)
	}
}

// has: a key opens bytes for a label to these fields, and their counter is a draw.
func has(t *testing.T, what string, b []byte, key api.Word, label string, draw api.Word, want ...string) {
	t.Helper()
	if len(b) < 16 || api.Word(b[:16]) != draw {
		t.Errorf("%s: not with the draw %x: %x", what, draw, b)
	}
	parts, err := kdc.Parts(key, label, b, len(want))
	if err != api.OK || !slices.Equal(textsOf(parts), want) {
		t.Errorf("%s: error %d and %q, want %q", what, err, parts, want)
	}
}

func TestExample(t *testing.T) { // P16.2: the chapter's example
	to, n, err := kdc.Answer(people("ann", "bob"), note.Note{Kind: note.NS1, A: "ann", X: word(1)}, three())
	if to != "" || told(n) != told(note.Note{}) || err != api.ErrState {
		t.Errorf("to %q, error %d, %s", to, err, told(n))
	}
}

func TestNS(t *testing.T) { // P16.2: each field of the answer to an NS2
	draws := three()
	to, n, err := kdc.Answer(people("ann", "bob"), asks(), draws)
	if to != "ann" || n.Kind != note.NS3 || n.Y != word(61) || err != api.OK {
		t.Errorf("to %q, error %d, %s", to, err, told(n))
	}
	has(t, "P", n.P, word(1), "ns3", draws[1], "bob", text(word(62)), text(draws[0]), number(1000))
	has(t, "Q", n.Q, word(2), "nst", draws[2], "ann", text(draws[0]), number(1000))
	if n.A != "" || n.B != "" || n.X != (api.Word{}) || len(n.R) != 0 {
		t.Errorf("there is something in other fields: %s", told(n))
	}
	answers(t, "NS2", people("ann", "bob"), asks(), draws)
}

func TestKSL(t *testing.T) { // P16.2: each field of the answer to a KSL2
	draws := three()
	to, n, err := kdc.Answer(people("ann", "bob"), ksl2("ann", "bob"), draws)
	if to != "bob" || n.Kind != note.KSL3 || err != api.OK {
		t.Errorf("to %q, error %d, %s", to, err, told(n))
	}
	has(t, "P", n.P, word(2), "k3b", draws[1], text(word(64)), "ann", text(draws[0]))
	has(t, "Q", n.Q, word(1), "k3a", draws[2], text(word(63)), "bob", text(draws[0]))
	if n.A != "" || n.B != "" || n.X != (api.Word{}) || n.Y != (api.Word{}) || len(n.R) != 0 {
		t.Errorf("there is something in other fields: %s", told(n))
	}
	answers(t, "KSL2", people("ann", "bob"), ksl2("ann", "bob"), draws)
}

func TestWordsAndNumbers(t *testing.T) { // P16.2: nonces, draws, keys and expiries of any kind are passed on
	words := []api.Word{{}, filled(255), {15: 1}, {1}, word(5)}
	for _, expiry := range []int64{0, 1, -1, 255, 256, api.Far, api.Far + 1, -api.Far, math.MaxInt64, math.MinInt64} {
		for i, nonce := range words {
			for _, y := range words {
				n := ns2("bob", words[i], "ann", text(nonce), number(expiry))
				n.Y = y
				b := book.Book{L: []book.Entry{{Name: "ann", Key: y}, {Name: "bob", Key: words[i]}}}
				for _, draws := range [][3]api.Word{{}, {nonce, y, {}}, {y, y, y}, {filled(255), nonce, filled(255)}} {
					if err := answers(t, "NS2", b, n, draws); err != api.OK {
						t.Errorf("NS2 with %x, %x and %d: error %d", nonce, y, expiry, err)
					}
					k := ksl2("ann", "bob")
					k.X, k.Y = nonce, y
					if err := answers(t, "KSL2", b, k, draws); err != api.OK {
						t.Errorf("KSL2 with %x and %x: error %d", nonce, y, err)
					}
				}
			}
		}
	}
}

func TestWhoIsWho(t *testing.T) { // P16.2: either of two can ask, wherever they stand in the book
	for _, b := range []book.Book{people("ann", "bob"), people("bob", "ann"), people("x", "bob", "y", "ann", "z"), people("annx", "an", "ann", "bo", "bob", "bobx")} {
		for _, pair := range [][2]string{{"ann", "bob"}, {"bob", "ann"}} {
			key, _ := keyAs(b, pair[1])
			if err := answers(t, "NS2", b, ns2(pair[1], key, pair[0], text(word(1)), number(2)), three()); err != api.OK {
				t.Errorf("%s asks for %s: error %d", pair[1], pair[0], err)
			}
			if err := answers(t, "KSL2", b, ksl2(pair[0], pair[1]), three()); err != api.OK {
				t.Errorf("%s asks for %s: error %d", pair[1], pair[0], err)
			}
		}
	}
}

func TestResponderNotInBook(t *testing.T) { // P16.2: ErrName for B, before the errors of P, whatever is in it
	for _, b := range []book.Book{{}, people("ann"), people("ann", "bobb"), people("ann", "bo", "BOB", "bob ")} {
		for _, n := range []note.Note{
			asks(), ns2("bob", api.Word{}, "ann", text(word(62)), number(1000)), ns2("bob", word(1), "ann", text(word(62)), number(1000)),
			ns2("bob", api.Word{}, "bob", text(word(62)), number(1)), ns2("bob", api.Word{}, "zoe", text(word(62)), number(1)),
			ns2("bob", api.Word{}, "ann"), ns2("bob", api.Word{}, "ANN", text(word(62)), number(1)),
			{Kind: note.NS2, B: "bob"}, {Kind: note.NS2, B: "bob", P: sample(48)}, {Kind: note.NS2, B: "bob", P: sample(500)},
			ksl2("ann", "bob"), ksl2("bob", "ann"), ksl2("bob", "zoe"),
		} {
			refuses(t, "without bob", b, n, api.ErrName)
		}
	}
}

func TestRequestThatDoesNotOpen(t *testing.T) { // P16.2: each error of seal.Open that P may have; they come before ErrForm, and before what is said of A
	b := people("ann", "bob")
	right := []string{"ann", text(word(62)), number(1000)}
	sealed := locked(word(2), "ns2", word(60), encoded(right...))
	for n := range sealed {
		want := api.ErrSeal
		if n < 48 {
			want = api.ErrShort
		}
		refuses(t, "a prefix", b, note.Note{Kind: note.NS2, B: "bob", P: []byte(sealed[:n])}, want)
	}
	for bit := range 8 * len(sealed) {
		p := []byte(sealed)
		p[bit/8] ^= 1 << (bit % 8)
		refuses(t, "a bit turned", b, note.Note{Kind: note.NS2, B: "bob", P: p}, api.ErrSeal)
	}
	refuses(t, "a byte more", b, note.Note{Kind: note.NS2, B: "bob", P: []byte(sealed + "a")}, api.ErrSeal)
	refuses(t, "nil", b, note.Note{Kind: note.NS2, B: "bob"}, api.ErrShort)
	refuses(t, "500 bytes", b, note.Note{Kind: note.NS2, B: "bob", P: sample(500)}, api.ErrSeal)
	for _, texts := range [][]string{right, {"bob", right[1], right[2]}, {"zoe", right[1], right[2]}, {"ann"}, {"ANN", right[1], right[2]}, {"", "", ""}} {
		for _, key := range []api.Word{{}, word(1), word(3), word(62)} {
			refuses(t, "another key", b, ns2("bob", key, texts...), api.ErrSeal)
		}
		for _, label := range []string{"nst", "ns3", "ns", "ns22", "NS2", "k3b", "ns2 ", "ns1", "ns4"} {
			p := []byte(locked(word(2), label, word(60), encoded(texts...)))
			refuses(t, "label "+label, b, note.Note{Kind: note.NS2, B: "bob", P: p}, api.ErrSeal)
		}
	}
}

func TestRequestOfOtherForms(t *testing.T) { // P16.2: P opens, but not to a name, a word and a number; this comes before what is said of A
	b := people("ann", "bob", "", "ANN", "a n", "\x00", strings.Repeat("a", 21))
	na, expiry := text(word(62)), number(1000)
	for _, a := range []string{"ann", "bob", "zoe", strings.Repeat("a", 20)} {
		for _, texts := range [][]string{
			nil, {a}, {a, na}, {a, na, expiry, ""}, {a, na, expiry, expiry}, {"", a, na, expiry}, {a, "", na, expiry}, {a, expiry, na}, {na, a, expiry}, {expiry, na, a}, {na, expiry, a},
			{a, "", expiry}, {a, na[:15], expiry}, {a, na + "\x00", expiry}, {a, expiry, expiry}, {a, na + na, expiry}, {a, string(sample(300)), expiry},
			{a, na, ""}, {a, na, expiry[:7]}, {a, na, expiry[1:]}, {a, na, expiry + "\x00"}, {a, na, "1000"}, {a, na, na}, {a, na, string(sample(264))},
			{a + "\x00", na, expiry}, {a + " ", na, expiry}, {strings.ToUpper(a), na, expiry}, {a + strings.Repeat("a", 21-min(20, len(a))), na, expiry},
			{"", na, expiry}, {"ANN", na, expiry}, {"a n", na, expiry}, {"\x00", na, expiry}, {strings.Repeat("a", 21), na, expiry}, {strings.Repeat("a", 256+3), na, expiry}, {"é", na, expiry}, {string(sample(300)), na, expiry},
			slices.Repeat([]string{"a"}, 20), slices.Repeat([]string{""}, 3),
		} {
			refuses(t, "other fields", b, ns2("bob", word(2), texts...), api.ErrForm)
		}
		for _, plain := range []string{"a", "\x00", encoded(a, na, expiry) + "\x00", encoded(a, na, expiry)[1:], encoded(a, na, expiry)[:20], a + na + expiry, "\x00\x00\x00", strings.Repeat("\x00", 42), string(sample(452)), encoded(a, na) + "\x01\xf5" + expiry} {
			p := []byte(locked(word(2), "ns2", word(60), plain))
			refuses(t, "no fields", b, note.Note{Kind: note.NS2, B: "bob", P: p}, api.ErrForm)
		}
	}
	for length := range 40 {
		for _, texts := range [][]string{{strings.Repeat("a", length), na, expiry}, {"ann", string(sample(length)), expiry}, {"ann", na, string(sample(length))}} {
			answers(t, "fields of other lengths", people("ann", "bob"), ns2("bob", word(2), texts...), three())
		}
	}
	for c := range 256 {
		answers(t, "names of other bytes", people("ann", "bob", string([]byte{byte(c)})), ns2("bob", word(2), string([]byte{byte(c)}), na, expiry), three())
	}
}

func TestRequestForOneself(t *testing.T) { // P16.2: ErrArg where A is B; for KSL, before ErrName
	for _, name := range []string{"bob", "b", "0", strings.Repeat("b", 20), "kdc"} {
		b := people("ann", name)
		refuses(t, "NS2", b, ns2(name, word(2), name, text(word(62)), number(1000)), api.ErrArg)
		refuses(t, "KSL2", b, ksl2(name, name), api.ErrArg)
		for _, without := range []book.Book{{}, people("ann"), people(name + "x")} {
			refuses(t, "KSL2, not in the book", without, ksl2(name, name), api.ErrArg)
		}
		b.L[1].Key = api.Word{}
		refuses(t, "NS2 with the zero key", b, ns2(name, api.Word{}, name, text(word(62)), number(1000)), api.ErrArg)
	}
}

func TestInitiatorNotInBook(t *testing.T) { // P16.2: ErrName for A
	for _, b := range []book.Book{people("zoe", "bob"), people("annx", "bob", "an"), people("", "bob", "ANN", "ann ", "nna")} {
		refuses(t, "NS2", b, asks(), api.ErrName)
		refuses(t, "KSL2", b, ksl2("ann", "bob"), api.ErrName)
		refuses(t, "KSL2, the other way about", b, ksl2("bob", "ann"), api.ErrName)
		refuses(t, "KSL2, of neither", b, ksl2("ann", "carol"), api.ErrName)
	}
}

func TestOtherKinds(t *testing.T) { // P16.2: ErrState, with names and blobs that an answer could be made of
	b := people("ann", "bob")
	p, q := asks().P, []byte(locked(word(2), "nst", word(1), encoded("ann", text(word(3)), number(4))))
	for _, n := range []note.Note{
		{Kind: note.NS1, A: "ann", X: word(1)}, {Kind: note.NS3, P: p, Q: q, Y: word(1)}, {Kind: note.NS4, P: p, Q: q}, {Kind: note.NS5, P: p},
		{Kind: note.KSL1, A: "ann", X: word(1)}, {Kind: note.KSL3, P: p, Q: q}, {Kind: note.KSL4, P: p, Q: q, R: p, Y: word(1)}, {Kind: note.KSL5, P: p},
		{Kind: note.Again1, Q: q, X: word(1)}, {Kind: note.Again2, P: p, Y: word(1)}, {Kind: note.Again3, P: p},
		{Kind: note.Time1, A: "ann", X: word(1)}, {Kind: note.Time2, P: p}, {Kind: note.Sorry, A: "bob"},
	} {
		for _, with := range []book.Book{b, {}, people("ann"), people("zoe")} {
			refuses(t, "kind "+strconv.Itoa(n.Kind), with, n, api.ErrState)
			refuses(t, "kind "+strconv.Itoa(n.Kind)+" with nothing", with, bare(n), api.ErrState)
		}
	}
}

// bare is a note with as little in it as there may be.
func bare(n note.Note) note.Note {
	return note.Note{Kind: n.Kind, A: n.A, B: n.B}
}

func TestTwoEntriesOfAName(t *testing.T) { // P16.2: the first counts
	b := people("ann", "bob", "ann", "bob", "bob")
	for i, want := range []api.Errno{api.ErrSeal, api.OK, api.ErrSeal, api.ErrSeal, api.ErrSeal} {
		refuses(t, "NS2 by the key "+strconv.Itoa(i+1), b, ns2("bob", word(i+1), "ann", text(word(62)), number(1)), want)
	}
	draws := three()
	_, n, _ := kdc.Answer(b, asks(), draws)
	has(t, "P of NS3", n.P, word(1), "ns3", draws[1], "bob", text(word(62)), text(draws[0]), number(1000))
	_, n, _ = kdc.Answer(b, ksl2("bob", "ann"), draws)
	has(t, "P of KSL3", n.P, word(1), "k3b", draws[1], text(word(64)), "bob", text(draws[0]))
	has(t, "Q of KSL3", n.Q, word(2), "k3a", draws[2], text(word(63)), "ann", text(draws[0]))
}

func TestOtherPartsOfTheBook(t *testing.T) { // P16.2, R2: what is revoked, Gen and Own do not count; nil lists are as empty ones
	want := people("ann", "bob")
	for i, b := range []book.Book{
		{L: want.L, Revoked: []api.Word{}}, {L: want.L, Revoked: []api.Word{word(1), word(2), word(62), word(70), {}}}, {L: want.L, Gen: 7}, {L: want.L, Own: word(2)}, {L: want.L, Gen: -1, Own: word(1)},
	} {
		for _, n := range []note.Note{asks(), ksl2("ann", "bob")} {
			to, got, err := kdc.Answer(b, n, three())
			wantTo, wanted, wantErr := kdc.Answer(want, n, three())
			if to != wantTo || told(got) != told(wanted) || err != wantErr || err != api.OK {
				t.Errorf("book %d: to %q, error %d, %.100s", i, to, err, told(got))
			}
		}
	}
	for _, b := range []book.Book{{}, {L: []book.Entry{}}, {L: []book.Entry{}, Revoked: []api.Word{}}, {L: make([]book.Entry, 0, 9), Gen: 1}} {
		refuses(t, "NS2 of nobody", b, asks(), api.ErrName)
		refuses(t, "KSL2 of nobody", b, ksl2("ann", "bob"), api.ErrName)
		refuses(t, "KSL2 of nobody with itself", b, ksl2("ann", "ann"), api.ErrArg)
		refuses(t, "Sorry", b, note.Note{Kind: note.Sorry, A: "ann"}, api.ErrState)
	}
}

// finds: a principal opens its part of an answer, and finds its peer's name and the new key where the protocol has them. No other key and no other label opens it.
func finds(t *testing.T, what string, b []byte, key, other api.Word, label string, many, nameAt, keyAt int, peer string, shared api.Word) {
	t.Helper()
	parts, err := kdc.Parts(key, label, b, many)
	if err != api.OK || len(parts) != many {
		t.Fatalf("%s: error %d", what, err)
	}
	if string(parts[nameAt]) != peer || string(parts[keyAt]) != text(shared) {
		t.Errorf("%s: finds %q and %x, want %q and %x", what, parts[nameAt], parts[keyAt], peer, shared)
	}
	for _, l := range []string{"ns2", "ns3", "nst", "k3a", "k3b", "kt"} {
		if l != label {
			errs(t, what+" for "+l, key, l, string(b), many, api.ErrSeal)
		}
		if other != key {
			errs(t, what+" for "+l+" by the other's key", other, l, string(b), many, api.ErrSeal)
		}
		if shared != key {
			errs(t, what+" for "+l+" by the new key", shared, l, string(b), many, api.ErrSeal)
		}
	}
}

func TestBothFindTheKey(t *testing.T) { // P16.3: with names and keys of many kinds
	keys := []api.Word{{}, {15: 1}, {1}, filled(255), word(9), filled('a')}
	names := []string{"a", "0", "ann", "kdc", strings.Repeat("z", 20), strings.Repeat("z", 19), "aa"}
	for i, keyA := range keys {
		for j, keyB := range keys {
			for at, a := range names {
				b := names[(at+1+(i+j)%(len(names)-1))%len(names)]
				who := book.Book{L: []book.Entry{{Name: "other", Key: word(3)}, {Name: b, Key: keyB}, {Name: a, Key: keyA}}}
				draws := [3]api.Word{word(i*7 + j + 500), keys[(i+at)%len(keys)], keys[(j+at)%len(keys)]}
				to, n, err := kdc.Answer(who, ns2(b, keyB, a, text(word(at)), number(int64(at))), draws)
				if to != a || n.Kind != note.NS3 || err != api.OK {
					t.Fatalf("NS2 of %q for %q: to %q, error %d", b, a, to, err)
				}
				finds(t, "the initiator of NS", n.P, keyA, keyB, "ns3", 4, 0, 2, b, draws[0])
				finds(t, "the responder of NS", n.Q, keyB, keyA, "nst", 3, 0, 1, a, draws[0])
				to, n, err = kdc.Answer(who, ksl2(a, b), draws)
				if to != b || n.Kind != note.KSL3 || err != api.OK {
					t.Fatalf("KSL2 of %q for %q: to %q, error %d", b, a, to, err)
				}
				finds(t, "the responder of KSL", n.P, keyB, keyA, "k3b", 3, 1, 2, a, draws[0])
				finds(t, "the initiator of KSL", n.Q, keyA, keyB, "k3a", 3, 1, 2, b, draws[0])
			}
		}
	}
}

// anyNote is a note at random: mostly one that is answered.
func anyNote(r *rand.Rand, names []string) note.Note {
	a, b := names[r.Intn(len(names))], names[r.Intn(len(names))]
	switch r.Intn(12) {
	case 0, 1, 2, 3, 4:
		n := ksl2(a, b)
		n.X, n.Y = word(r.Int()), word(r.Int())
		return n
	case 5:
		return note.Note{Kind: note.NS1, A: a, X: word(r.Int())}
	}
	texts := []string{a, text(word(r.Int())), number(r.Int63() - 1<<62)}
	if r.Intn(9) == 0 {
		texts[r.Intn(3)] = string(sample(r.Intn(20)))
	}
	if r.Intn(9) == 0 {
		texts = append(texts, "")[:2+2*r.Intn(2)]
	}
	n := ns2(b, word(1+r.Intn(3)), texts...)
	if r.Intn(9) == 0 {
		n.P[r.Intn(len(n.P))] ^= byte(r.Intn(256))
	}
	if r.Intn(20) == 0 {
		n.P = n.P[:r.Intn(len(n.P))]
	}
	return n
}

func TestAnyNotes(t *testing.T) { // P16.2: against the document's words
	met := map[api.Errno]int{}
	r := rand.New(rand.NewSource(3))
	names := []string{"ann", "bob", "carol", "dan"}
	for range 8000 {
		var who book.Book
		for range r.Intn(12) {
			who.L = append(who.L, book.Entry{Name: names[r.Intn(4)], Key: word(1 + r.Intn(3))})
		}
		draws := [3]api.Word{word(r.Intn(9)), word(r.Int()), word(r.Int())}
		met[answers(t, "at random", who, anyNote(r, names), draws)]++
	}
	for _, err := range []api.Errno{api.OK, api.ErrArg, api.ErrShort, api.ErrForm, api.ErrName, api.ErrSeal, api.ErrState} {
		if met[err] < 15 {
			t.Errorf("error %d was met %d times", err, met[err])
		}
	}
}

// scribble writes over all bytes of a note, and over what is behind the ends of its lists, as far as their memory goes.
func scribble(n note.Note) {
	for _, b := range [][]byte{n.P, n.Q, n.R} {
		b = b[:cap(b)]
		for i := range b {
			b[i] ^= 0x55
		}
	}
}

func TestAnswersAreTheCallers(t *testing.T) { // R3: what is written into an answer changes nothing that was handed in, nor another answer, nor its own other part
	for _, n := range []note.Note{asks(), ksl2("ann", "bob")} {
		who := people("ann", "bob", "carol")
		who.Revoked = []api.Word{word(1)}
		memory := append(append(sample(5), n.P...), sample(50)...)
		n.P = memory[5 : 5+len(n.P)]
		before, bookBefore, memoryBefore := told(n), toldBook(who), string(memory)
		_, want, _ := answerAs(who, n, three())
		_, first, _ := kdc.Answer(who, n, three())
		_, second, err := kdc.Answer(who, n, three())
		for i := range first.P[:cap(first.P)] {
			first.P[:cap(first.P)][i] ^= 0x55
		}
		if string(first.Q) != string(want.Q) {
			t.Error("P shares memory with Q")
		}
		scribble(first)
		if told(n) != before || toldBook(who) != bookBefore || string(memory) != memoryBefore {
			t.Error("an answer shares memory with what was handed in")
		}
		if err != api.OK || told(second) != told(want) {
			t.Errorf("an answer shares memory with another: %s", told(second))
		}
		for i := range memory {
			memory[i] ^= 0x55
		}
		for i := range who.L {
			who.L[i] = book.Entry{Name: "scribble"}
		}
		if told(second) != told(want) {
			t.Errorf("what was handed in shares memory with an answer: %s", told(second))
		}
		answers(t, "behind all of that", people("ann", "bob"), asks(), three())
	}
}

// script is what a row of calls answers.
func script() string {
	var all strings.Builder
	r := rand.New(rand.NewSource(4))
	names := []string{"ann", "bob", "carol"}
	for i := range 60 {
		who := people(names[:1+i%3]...)
		to, n, err := kdc.Answer(who, anyNote(r, names), [3]api.Word{word(i), word(i + 1), word(i + 2)})
		fmt.Fprintf(&all, "%q %s %d\n", to, told(n), err)
		b := kdc.Sealed(word(i%4), "ns2", word(i), sample(i), sample(2*i))
		parts, err := kdc.Parts(word(i%2), "ns2", b, 2)
		fmt.Fprintf(&all, "%x %x %d\n", b, parts, err)
	}
	return all.String()
}

func TestSameCallsSameAnswers(t *testing.T) { // R4: whatever was called before
	want := script()
	for i := range 4 {
		for j := range 40 * i {
			kdc.Answer(people("ann", "bob"), ksl2("bob", "ann"), [3]api.Word{word(j), word(j), word(j)})
			kdc.Answer(people("ann", "bob"), asks(), [3]api.Word{word(j), word(j), word(j)})
			kdc.Answer(book.Book{}, asks(), three())
		}
		if script() != want {
			t.Fatal("the same calls have other answers")
		}
	}
}

func TestDrawsCount(t *testing.T) { // R4, P16.2: each draw in its place, and nothing else but it changes
	for _, n := range []note.Note{asks(), ksl2("ann", "bob")} {
		_, want, _ := kdc.Answer(people("ann", "bob"), n, three())
		for i, changed := range [][2]bool{{true, true}, {true, false}, {false, true}} {
			for bit := range 128 {
				draws := three()
				draws[i][bit/8] ^= 1 << (bit % 8)
				_, got, err := kdc.Answer(people("ann", "bob"), n, draws)
				if err != api.OK || (string(got.P) != string(want.P)) != changed[0] || (string(got.Q) != string(want.Q)) != changed[1] {
					t.Fatalf("bit %d of draw %d: error %d", bit, i, err)
				}
			}
		}
	}
}

func TestSeveralGoroutines(t *testing.T) { // R5: also with the same book and the same note
	want := script()
	who, n := people("ann", "bob"), asks()
	_, wanted, _ := kdc.Answer(who, n, three())
	var group sync.WaitGroup
	for range 8 {
		group.Go(func() {
			if script() != want {
				t.Error("other answers")
			}
			for range 20 {
				if to, got, err := kdc.Answer(who, n, three()); to != "ann" || told(got) != told(wanted) || err != api.OK {
					t.Errorf("to %q, error %d", to, err)
				}
			}
		})
	}
	group.Wait()
}

func TestGreatBooks(t *testing.T) { // R7: with hundreds of thousands of entries, and names by the hundreds of millions
	who := people("ann")
	long := strings.Repeat("b", 1<<28)
	for i := range 300000 {
		who.L = append(who.L, book.Entry{Name: "p" + strconv.Itoa(i), Key: word(i)})
	}
	who.L = append(who.L, book.Entry{Name: long, Key: word(1)}, book.Entry{Name: "bob", Key: word(2)})
	to, n, err := kdc.Answer(who, asks(), three())
	if to != "ann" || n.Kind != note.NS3 || err != api.OK {
		t.Errorf("NS2: to %q, error %d", to, err)
	}
	to, n, err = kdc.Answer(who, ksl2("ann", "bob"), three())
	if to != "bob" || n.Kind != note.KSL3 || err != api.OK {
		t.Errorf("KSL2: to %q, error %d", to, err)
	}
	if _, _, err := kdc.Answer(who, ksl2("ann", "carol"), three()); err != api.ErrName {
		t.Errorf("KSL2 of one that is not there: error %d", err)
	}
}

func TestImports(t *testing.T) { // R6, and the map: kdc imports api, seal, field, note and book
	files, err := filepath.Glob("*.go")
	if err != nil || len(files) == 0 {
		t.Fatal("no files", err)
	}
	for _, name := range files {
		if strings.HasSuffix(name, "_test.go") {
			continue
		}
		file, err := parser.ParseFile(token.NewFileSet(), name, nil, parser.ImportsOnly)
		if err != nil {
			t.Fatal(err)
		}
		for _, i := range file.Imports {
			switch i.Path.Value {
			case `"bartizan/api"`, `"bartizan/seal"`, `"bartizan/field"`, `"bartizan/note"`, `"bartizan/book"`:
			default:
				t.Errorf("%s imports %s", name, i.Path.Value)
			}
		}
	}
}
