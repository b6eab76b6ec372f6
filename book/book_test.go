package book_test

import (
	"encoding/binary"
	"encoding/hex"
	"fmt"
	"maps"
	"math"
	"math/rand"
	"regexp"
	"slices"
	"strconv"
	"strings"
	"testing"

	"bartizan/api"
	"bartizan/book"
)

const mostGen = math.MaxInt32

// has is the fields of each kind, by the document's words: a name, a key, and Gen.
var has = map[int]string{1: "NK", 2: "N", 3: "NK", 4: "K", 5: "KG"}

var isName = regexp.MustCompile(`\A[a-z0-9]{1,20}\z`).MatchString

// rightAs tells whether an operation is valid, as the document's words have it.
func rightAs(x book.Op) bool {
	fields, ok := has[x.Kind]
	name, key, gen := x.Name == "", x.Key == api.Word{}, x.Gen == 0
	if strings.Contains(fields, "N") {
		name = isName(x.Name)
	}
	if strings.Contains(fields, "G") {
		gen = x.Gen >= 1 && x.Gen <= mostGen
	}
	return ok && name && gen && (key || strings.Contains(fields, "K"))
}

// fields is the encoding of texts, as the document's words have it.
func fields(texts ...string) string {
	var all strings.Builder
	for _, text := range texts {
		all.WriteString(string([]byte{byte(len(text) / 256), byte(len(text) % 256)}) + text)
	}
	return all.String()
}

func number(n int64) string { return string(binary.BigEndian.AppendUint64(nil, uint64(n))) }

func text(w api.Word) string { return string(w[:]) }

// enc is the encoding of an operation, valid or not, as the document's words have it.
func enc(x book.Op) string {
	return string([]byte{byte(x.Kind)}) + fields(x.Name, text(x.Key), number(int64(x.Gen)))
}

// readAs is the valid operation whose encoding a text is. With a name of n bytes that has 31 + n bytes, and all else stands at fixed places.
func readAs(b string) (book.Op, bool) {
	n := len(b) - 31
	if n < 0 || n > 20 {
		return book.Op{}, false
	}
	gen := binary.BigEndian.Uint64([]byte(b[len(b)-8:]))
	if gen > mostGen {
		return book.Op{}, false
	}
	x := book.Op{Kind: int(b[0]), Name: b[3 : 3+n], Key: api.Word([]byte(b[5+n : 21+n])), Gen: int(gen)}
	if !rightAs(x) || enc(x) != b {
		return book.Op{}, false
	}
	return x, true
}

// key is a word that is unlike for every number.
func key(n int) (w api.Word) {
	binary.BigEndian.PutUint32(w[3:], uint32(n))
	w[0], w[15] = byte(n), byte(n/256)
	return w
}

func add(name string, n int) book.Op   { return book.Op{Kind: 1, Name: name, Key: key(n)} }
func remove(name string) book.Op       { return book.Op{Kind: 2, Name: name} }
func rekey(name string, n int) book.Op { return book.Op{Kind: 3, Name: name, Key: key(n)} }
func revoke(n int) book.Op             { return book.Op{Kind: 4, Key: key(n)} }
func next(gen, n int) book.Op          { return book.Op{Kind: 5, Key: key(n), Gen: gen} }

// entries is a list of the names, in order; the key of the first one is key(1), and so on.
func entries(names ...string) []book.Entry {
	var l []book.Entry
	for i, name := range names {
		l = append(l, book.Entry{Name: name, Key: key(i + 1)})
	}
	return l
}

// names is p1, p2 and so on.
func names(many int) []string {
	var l []string
	for i := range many {
		l = append(l, "p"+strconv.Itoa(i+1))
	}
	return l
}

// words is key(1), key(2) and so on.
func words(many int) []api.Word {
	var l []api.Word
	for i := range many {
		l = append(l, key(i+1))
	}
	return l
}

// great is a book with so many entries and revoked tickets, and something in its other parts.
func great(many, revoked int) book.Book {
	return book.Book{L: entries(names(many)...), Revoked: words(revoked), Gen: 7, Own: key(70)}
}

// told is a book as text. Nil and empty lists are the same.
func told(b book.Book) string {
	return fmt.Sprintf("%q %x gen %d own %x", b.L, b.Revoked, b.Gen, b.Own)
}

func toldOps(ops []book.Op) string {
	var all strings.Builder
	for _, x := range ops {
		fmt.Fprintf(&all, "%d %q %x %d\n", x.Kind, x.Name, x.Key, x.Gen)
	}
	return all.String()
}

// is: a book is that which is asked.
func is(t *testing.T, what string, got, want book.Book) {
	t.Helper()
	if told(got) != told(want) {
		t.Errorf("%s: %.200s, want %.200s", what, told(got), told(want))
	}
}

// applies: Apply answers a book and an error.
func applies(t *testing.T, what string, b book.Book, x book.Op, want book.Book, wantErr api.Errno) {
	t.Helper()
	before, wanted := told(b), told(want)
	got, err := book.Apply(b, x)
	if err != wantErr || told(got) != wanted {
		t.Errorf("%s: error %d and %.200s, want %d and %.200s", what, err, told(got), wantErr, wanted)
	}
	if told(b) != before {
		t.Errorf("%s changed its argument: %.200s", what, told(b))
	}
}

// after is the book behind operations, which must have no errors.
func after(t *testing.T, b book.Book, ops ...book.Op) book.Book {
	t.Helper()
	for i, x := range ops {
		var err api.Errno
		if b, err = book.Apply(b, x); err != api.OK {
			t.Fatalf("operation %d, %v: error %d", i, x, err)
		}
	}
	return b
}

// anyNames is names that are valid, and others.
func anyNames() []string {
	return []string{
		"", "a", "z", "0", "9", "ann", "abcdefghij0123456789", strings.Repeat("z", 20), strings.Repeat("z", 19),
		strings.Repeat("z", 21), "abcdefghij0123456789a", strings.Repeat("a", 256), strings.Repeat("a", 257), strings.Repeat("a", 501),
		"A", "Z", "aA", "a b", " a", "a ", "a\x00", "\x00", "a-", "a_b", "a.b", "\xff", "é", "a\n", "`", "{", "/", ":", "@", "٣", "ａ",
	}
}

func anyKeys() []api.Word {
	last := api.Word{15: 1}
	first := api.Word{1}
	middle := api.Word{7: 128}
	return []api.Word{{}, first, last, middle, key(3), api.Word([]byte(strings.Repeat("\xff", 16)))}
}

func anyGens() []int {
	return []int{0, 1, 2, 255, 256, mostGen - 1, mostGen, mostGen + 1, mostGen + 2, 1 << 32, 1<<32 + 1, math.MaxInt, -1, -2, math.MinInt32, math.MinInt32 + 1, -1 << 32, 1 - 1<<32, math.MinInt, math.MinInt + 1}
}

// anyOps is operations of all kinds there are, and of others, with all of those names, keys and Gens.
func anyOps() []book.Op {
	var l []book.Op
	for _, kind := range []int{1, 2, 3, 4, 5, 0, 6, 7, -1, -4, -251, 255, 256, 257, 258, 260, 261, 1 << 32, 1<<32 + 1, math.MaxInt, math.MinInt, math.MinInt + 1} {
		for _, name := range anyNames() {
			for _, k := range anyKeys() {
				for _, gen := range anyGens() {
					l = append(l, book.Op{Kind: kind, Name: name, Key: k, Gen: gen})
				}
			}
		}
	}
	return l
}

// check: Right and Put answer as the document's words have it, and Read decodes what Put returned.
func check(t *testing.T, x book.Op) {
	t.Helper()
	right := rightAs(x)
	if got := book.Right(x); got != right {
		t.Errorf("Right(%.60v): %t", x, got)
	}
	b, err := book.Put(x)
	if !right {
		if err != api.ErrForm || len(b) > 0 {
			t.Errorf("Put(%.60v): error %d and %d bytes", x, err, len(b))
		}
		return
	}
	if err != api.OK || string(b) != enc(x) {
		t.Errorf("Put(%v): error %d and %q, want %q", x, err, b, enc(x))
	}
	if got, err := book.Read(b); got != x || err != api.OK {
		t.Errorf("Read of the encoding of %v: error %d and %v", x, err, got)
	}
}

// reads: Read answers as the document's words have it.
func reads(t *testing.T, b string) {
	t.Helper()
	want, ok := readAs(b)
	wantErr := api.OK
	if !ok {
		wantErr = api.ErrForm
	}
	got, err := book.Read([]byte(b))
	if got != want || err != wantErr {
		t.Errorf("Read(%.80q): error %d and %v, want %d and %v", b, err, got, wantErr, want)
	}
}

// validOps is a few valid operations of each kind.
func validOps() []book.Op {
	return []book.Op{
		add("a", 1), add("abcdefghij0123456789", 2), {Kind: 1, Name: "zero"}, remove("b"), remove(strings.Repeat("9", 20)),
		rekey("carol", 3), {Kind: 3, Name: "zero"}, revoke(4), {Kind: 4}, next(1, 5), next(mostGen, 6), {Kind: 5, Gen: 256},
	}
}

func TestExample(t *testing.T) { // P15.2: the chapter's example
	b := after(t, book.Book{}, add("ann", 1))
	applies(t, "Add of ann twice", b, add("ann", 1), b, api.ErrTwice)
}

func TestKinds(t *testing.T) {
	if book.Add != 1 || book.Remove != 2 || book.Rekey != 3 || book.Revoke != 4 || book.Next != 5 {
		t.Error("the kinds have other numbers")
	}
}

func TestRightAndPut(t *testing.T) { // P15.1: of all kinds, names, keys and Gens that the issue names
	for _, x := range anyOps() {
		check(t, x)
	}
}

func TestOtherKinds(t *testing.T) { // P15.1, R1: no kind but the five, and none that a byte makes of them
	for kind := -600; kind < 600; kind++ {
		for _, x := range validOps() {
			x.Kind = kind
			check(t, x)
		}
		check(t, book.Op{Kind: kind})
	}
}

func TestNames(t *testing.T) { // P15.1: every byte, alone and at each place of a name; every length
	for c := range 256 {
		for length := 1; length <= 20; length++ {
			for at := range length {
				name := []byte(strings.Repeat("m", length))
				name[at] = byte(c)
				check(t, add(string(name), 1))
				check(t, remove(string(name)))
				check(t, rekey(string(name), 1))
			}
		}
	}
	for length := range 700 {
		name := strings.Repeat("q", length)
		check(t, add(name, 1))
		check(t, remove(name))
		check(t, rekey(name, 1))
		check(t, book.Op{Kind: 4, Name: name, Key: key(1)})
		check(t, book.Op{Kind: 5, Name: name, Key: key(1), Gen: 1})
	}
}

func TestOneFieldMore(t *testing.T) { // P15.1: each field that a kind does not have, filled by as little as can be
	for _, x := range validOps() {
		fields := has[x.Kind]
		if !strings.Contains(fields, "N") {
			x.Name = "a"
			check(t, x)
			x.Name = "\x00"
			check(t, x)
			x.Name = ""
		}
		if !strings.Contains(fields, "K") {
			for at := range 16 {
				x.Key = api.Word{}
				x.Key[at] = 1
				check(t, x)
			}
			x.Key = api.Word{}
		}
		if !strings.Contains(fields, "G") {
			for _, gen := range anyGens() {
				x.Gen = gen
				check(t, x)
			}
		}
	}
}

func TestKnownBytes(t *testing.T) { // P15.1: encodings written out by hand
	w := api.Word{0: 0xa0, 15: 0xaf}
	for _, known := range []struct {
		op    book.Op
		bytes string
	}{
		{book.Op{Kind: book.Add, Name: "ann", Key: w}, "01 0003616e6e 0010a00000000000000000000000000000af 00080000000000000000"},
		{book.Op{Kind: book.Remove, Name: "b2"}, "02 00026232 001000000000000000000000000000000000 00080000000000000000"},
		{book.Op{Kind: book.Rekey, Name: "z", Key: w}, "03 00017a 0010a00000000000000000000000000000af 00080000000000000000"},
		{book.Op{Kind: book.Revoke, Key: w}, "04 0000 0010a00000000000000000000000000000af 00080000000000000000"},
		{book.Op{Kind: book.Next, Key: w, Gen: 0x01020304}, "05 0000 0010a00000000000000000000000000000af 00080000000001020304"},
		{book.Op{Kind: book.Next, Gen: mostGen}, "05 0000 001000000000000000000000000000000000 0008000000007fffffff"},
	} {
		want, err := hex.DecodeString(strings.ReplaceAll(known.bytes, " ", ""))
		if err != nil {
			t.Fatal(err)
		}
		if got, err := book.Put(known.op); err != api.OK || string(got) != string(want) {
			t.Errorf("Put(%v): error %d and %x, want %x", known.op, err, got, want)
		}
		if got, err := book.Read(want); err != api.OK || got != known.op {
			t.Errorf("Read(%x): error %d and %v, want %v", want, err, got, known.op)
		}
	}
}

func TestReadNearly(t *testing.T) { // P15.1: every prefix of an encoding, one byte more, and every byte of it made another
	for _, x := range validOps() {
		b := enc(x)
		for end := range b {
			reads(t, b[:end])
			reads(t, b[end+1:])
		}
		for c := range 256 {
			reads(t, b+string([]byte{byte(c)}))
			reads(t, string([]byte{byte(c)})+b)
			for at := range b {
				turned := []byte(b)
				turned[at] = byte(c)
				reads(t, string(turned))
			}
		}
		reads(t, b+b)
	}
}

func TestReadNothing(t *testing.T) { // P15.1, R1, R2
	for _, b := range [][]byte{nil, {}, []byte("a")[:0]} {
		if x, err := book.Read(b); err != api.ErrForm || x != (book.Op{}) {
			t.Errorf("Read of nothing: error %d and %v", err, x)
		}
	}
	for c := range 256 {
		reads(t, string([]byte{byte(c)}))
	}
}

func TestReadFields(t *testing.T) { // P15.1: of other fields than three, or of other lengths
	zero, none := text(api.Word{}), number(0)
	for kind := range 7 {
		for _, name := range []string{"", "ann"} {
			for _, n := range []int64{0, 1} {
				three := []string{name, text(key(9)), number(n)}
				for many := range 4 {
					reads(t, string([]byte{byte(kind)})+fields(three[:many]...))
				}
				for _, more := range []string{"", "a", zero, none} {
					reads(t, string([]byte{byte(kind)})+fields(append(slices.Clone(three), more)...))
					reads(t, string([]byte{byte(kind)})+fields(append([]string{more}, three...)...))
				}
				reads(t, string([]byte{byte(kind)})+fields(append(slices.Clone(three), make([]string, 17)...)...))
				reads(t, string([]byte{byte(kind)})+fields(append(slices.Clone(three), make([]string, 18)...)...))
				reads(t, string([]byte{byte(kind)})+fields(three[0], three[2], three[1]))
				for length := range 40 {
					reads(t, string([]byte{byte(kind)})+fields(name, strings.Repeat("k", length), number(n)))
					reads(t, string([]byte{byte(kind)})+fields(name, strings.Repeat("\x00", length), number(n)))
					reads(t, string([]byte{byte(kind)})+fields(name, zero, strings.Repeat("\x00", length)+"\x01"))
					reads(t, string([]byte{byte(kind)})+fields(name, zero, strings.Repeat("\x00", length)))
				}
			}
		}
		for _, name := range anyNames() {
			reads(t, string([]byte{byte(kind)})+fields(name, zero, none))
			reads(t, string([]byte{byte(kind)})+fields(name, text(key(5)), number(3)))
		}
	}
}

func TestReadNumbers(t *testing.T) { // P15.1: numbers that do not fit, also such as a narrower type would make a right one of
	for kind := range 7 {
		for _, name := range []string{"", "ann"} {
			for _, k := range []api.Word{{}, key(9)} {
				for _, n := range []int64{0, 1, 2, -1, mostGen, mostGen + 1, 1 << 32, 1<<32 + 1, 1<<40 + 7, -1 << 32, 1 - 1<<32, math.MaxInt64, math.MinInt64, math.MinInt64 + 1, math.MinInt32, math.MinInt32 + 1} {
					reads(t, string([]byte{byte(kind)})+fields(name, text(k), number(n)))
				}
				for bit := range 64 {
					reads(t, string([]byte{byte(kind)})+fields(name, text(k), number(1<<bit)))
					reads(t, string([]byte{byte(kind)})+fields(name, text(k), number(1<<bit|1)))
				}
			}
		}
	}
}

func TestReadAnyBytes(t *testing.T) { // P15.1: encodings of operations at random, some bytes of which are others
	r := rand.New(rand.NewSource(15))
	ops := anyOps()
	for range 100000 {
		b := []byte(enc(ops[r.Intn(len(ops))]))
		for range r.Intn(3) {
			b[r.Intn(len(b))] ^= 1 << r.Intn(8)
		}
		if r.Intn(4) == 0 {
			b = b[:r.Intn(len(b)+1)]
		}
		reads(t, string(b))
	}
	for range 20000 {
		b := make([]byte, r.Intn(60))
		r.Read(b)
		reads(t, string(b))
	}
}

func TestApply(t *testing.T) { // P15.2: each kind, with each of its errors and without one
	b := book.Book{L: entries("ann", "bob", "cy"), Revoked: words(3), Gen: 5, Own: key(50)}
	with := func(change func(b *book.Book)) book.Book {
		changed := book.Book{L: slices.Clone(b.L), Revoked: slices.Clone(b.Revoked), Gen: b.Gen, Own: b.Own}
		change(&changed)
		return changed
	}
	for _, c := range []struct {
		what string
		op   book.Op
		want book.Book
		err  api.Errno
	}{
		{"Add", add("dan", 4), with(func(b *book.Book) { b.L = entries("ann", "bob", "cy", "dan") }), api.OK},
		{"Add of a key that is there", add("dan", 1), with(func(b *book.Book) { b.L = append(b.L, book.Entry{Name: "dan", Key: key(1)}) }), api.OK},
		{"Add of zeros", book.Op{Kind: 1, Name: "dan"}, with(func(b *book.Book) { b.L = append(b.L, book.Entry{Name: "dan"}) }), api.OK},
		{"Add of the first", add("ann", 9), b, api.ErrTwice},
		{"Add of the last, with its key", add("cy", 3), b, api.ErrTwice},
		{"Remove of the first", remove("ann"), with(func(b *book.Book) { b.L = b.L[1:] }), api.OK},
		{"Remove of the second", remove("bob"), with(func(b *book.Book) { b.L = []book.Entry{b.L[0], b.L[2]} }), api.OK},
		{"Remove of the last", remove("cy"), with(func(b *book.Book) { b.L = b.L[:2] }), api.OK},
		{"Remove of none", remove("dan"), b, api.ErrName},
		{"Remove of a part of a name", remove("an"), b, api.ErrName},
		{"Rekey of the first", rekey("ann", 9), with(func(b *book.Book) { b.L[0].Key = key(9) }), api.OK},
		{"Rekey of the second", rekey("bob", 9), with(func(b *book.Book) { b.L[1].Key = key(9) }), api.OK},
		{"Rekey of the last, to zeros", book.Op{Kind: 3, Name: "cy"}, with(func(b *book.Book) { b.L[2].Key = api.Word{} }), api.OK},
		{"Rekey to the key it has", rekey("bob", 2), b, api.OK},
		{"Rekey of none", rekey("dan", 9), b, api.ErrName},
		{"Revoke", revoke(4), with(func(b *book.Book) { b.Revoked = words(4) }), api.OK},
		{"Revoke of zeros", book.Op{Kind: 4}, with(func(b *book.Book) { b.Revoked = append(b.Revoked, api.Word{}) }), api.OK},
		{"Revoke of one's own key", revoke(50), with(func(b *book.Book) { b.Revoked = append(b.Revoked, key(50)) }), api.OK},
		{"Revoke of the first", revoke(1), b, api.ErrTwice},
		{"Revoke of the last", revoke(3), b, api.ErrTwice},
		{"Next by one", next(6, 9), with(func(b *book.Book) { b.Gen, b.Own = 6, key(9) }), api.OK},
		{"Next by more", next(mostGen, 9), with(func(b *book.Book) { b.Gen, b.Own = mostGen, key(9) }), api.OK},
		{"Next with the key it has", next(6, 50), with(func(b *book.Book) { b.Gen = 6 }), api.OK},
		{"Next with zeros", book.Op{Kind: 5, Gen: 6}, with(func(b *book.Book) { b.Gen, b.Own = 6, api.Word{} }), api.OK},
		{"Next of the same Gen", next(5, 9), b, api.ErrTwice},
		{"Next of one less", next(4, 9), b, api.ErrTwice},
		{"Next of the first", next(1, 9), b, api.ErrTwice},
	} {
		applies(t, c.what, b, c.op, c.want, c.err)
	}
}

func TestApplyToTheEmptyBook(t *testing.T) { // P15.2, R2: with nil lists or empty ones
	for _, b := range []book.Book{{}, {L: []book.Entry{}, Revoked: []api.Word{}}, {L: entries("a")[:0], Revoked: words(1)[:0]}} {
		applies(t, "Add", b, add("a", 1), book.Book{L: entries("a")}, api.OK)
		applies(t, "Remove", b, remove("a"), book.Book{}, api.ErrName)
		applies(t, "Rekey", b, rekey("a", 1), book.Book{}, api.ErrName)
		applies(t, "Revoke", b, revoke(1), book.Book{Revoked: words(1)}, api.OK)
		applies(t, "Next", b, next(1, 1), book.Book{Gen: 1, Own: key(1)}, api.OK)
		applies(t, "no operation", b, book.Op{}, book.Book{}, api.ErrForm)
	}
	applies(t, "Next of a book with a Gen below 0", book.Book{Gen: -3}, next(1, 1), book.Book{Gen: 1, Own: key(1)}, api.OK)
	applies(t, "Next of a book with the greatest Gen", book.Book{Gen: mostGen}, next(mostGen, 1), book.Book{Gen: mostGen}, api.ErrTwice)
	applies(t, "Next of a book with a greater Gen", book.Book{Gen: math.MaxInt}, next(mostGen, 1), book.Book{Gen: math.MaxInt}, api.ErrTwice)
}

func TestApplyNotValid(t *testing.T) { // P15.2: b and ErrForm, before every other error
	for _, b := range []book.Book{{}, great(50, 200), {L: entries("a", "ann"), Revoked: []api.Word{{}, {1}}, Gen: 3, Own: key(5)}} {
		want := told(b)
		for i, x := range anyOps() {
			if rightAs(x) || i%7 > 0 && len(b.L) == 50 {
				continue
			}
			got, err := book.Apply(b, x)
			if err != api.ErrForm || i%100 == 0 && told(got) != want || len(got.L) != len(b.L) || len(got.Revoked) != len(b.Revoked) || got.Gen != b.Gen || got.Own != b.Own {
				t.Fatalf("Apply of %.60v: error %d and %.100s", x, err, told(got))
			}
		}
	}
	b := great(50, 200)
	for _, x := range []book.Op{
		{Kind: 1, Name: "p1", Gen: 1}, {Kind: 1, Name: "new", Gen: -1}, {Kind: 1, Name: "New"}, {Kind: 1}, {Kind: 2, Name: "p1", Key: key(1)}, {Kind: 2, Name: "none", Gen: 1}, {Kind: 2},
		{Kind: 3, Name: "none", Key: key(1), Gen: 1}, {Kind: 3, Name: strings.Repeat("p", 21)}, {Kind: 4, Name: "p1", Key: key(1)}, {Kind: 4, Key: key(999), Gen: 1},
		{Kind: 5, Gen: 0}, {Kind: 5, Gen: mostGen + 1}, {Kind: 5, Gen: -1}, {Kind: 5, Name: "p1", Gen: 9}, {Kind: 6}, {Kind: 257, Name: "new"},
	} {
		applies(t, "what is not valid", b, x, b, api.ErrForm)
	}
}

func TestManyEntries(t *testing.T) { // P15.2: one with 50 entries is full, and one with more is, too
	for many := range 53 {
		b := great(many, 3)
		want, err := b, api.ErrFull
		if many < 50 {
			want.L, err = entries(append(names(many), "new")...), api.OK
		}
		applies(t, "Add to "+strconv.Itoa(many), b, add("new", many+1), want, err)
		for i, name := range names(many) {
			applies(t, "Add of one that is there, to "+strconv.Itoa(many), b, add(name, 9), b, api.ErrTwice) // before ErrFull
			less := b
			less.L = append(slices.Clone(b.L[:i]), b.L[i+1:]...)
			applies(t, "Remove of entry "+strconv.Itoa(i), b, remove(name), less, api.OK)
			other := b
			other.L = slices.Clone(b.L)
			other.L[i].Key = key(99)
			applies(t, "Rekey of entry "+strconv.Itoa(i), b, rekey(name, 99), other, api.OK)
		}
		applies(t, "Remove of none", b, remove("new"), b, api.ErrName)
		applies(t, "Rekey of none", b, rekey("new", 9), b, api.ErrName)
		applies(t, "Revoke", b, revoke(4), book.Book{L: b.L, Revoked: words(4), Gen: b.Gen, Own: b.Own}, api.OK) // of entries it has no less room
		applies(t, "Next", b, next(8, 4), book.Book{L: b.L, Revoked: b.Revoked, Gen: 8, Own: key(4)}, api.OK)
	}
	b := after(t, great(50, 0), remove("p7"), add("new", 9)) // there is room again, at the end
	applies(t, "Add", b, add("p7", 7), b, api.ErrFull)
	if want := append(slices.Delete(names(50), 6, 7), "new"); !slices.EqualFunc(b.L, want, func(e book.Entry, name string) bool { return e.Name == name }) {
		t.Errorf("the entries are %v", b.L)
	}
}

func TestManyRevoked(t *testing.T) { // P15.2: one with 200 revoked tickets is full, and one with more is, too
	for _, many := range []int{0, 1, 2, 50, 51, 198, 199, 200, 201, 300} {
		b := great(2, many)
		want, err := b, api.ErrFull
		if many < 200 {
			want.Revoked, err = words(many+1), api.OK
		}
		applies(t, "Revoke behind "+strconv.Itoa(many), b, revoke(many+1), want, err)
		for i := range many {
			applies(t, "Revoke of one that is, of "+strconv.Itoa(many), b, revoke(i+1), b, api.ErrTwice) // before ErrFull
		}
		applies(t, "Add", b, add("new", 3), book.Book{L: entries("p1", "p2", "new"), Revoked: b.Revoked, Gen: b.Gen, Own: b.Own}, api.OK)
	}
}

func TestTickets(t *testing.T) { // P15.2: all bytes of a ticket count
	b := after(t, book.Book{}, revoke(77))
	for bit := range 128 {
		other := key(77)
		other[bit/8] ^= 1 << (bit % 8)
		if book.Dead(b, other) {
			t.Errorf("a ticket that differs in bit %d is dead", bit)
		}
		b2 := after(t, b, book.Op{Kind: 4, Key: other})
		if !book.Dead(b2, other) || !book.Dead(b2, key(77)) || len(b2.Revoked) != 2 {
			t.Errorf("bit %d: not both are dead", bit)
		}
	}
}

func TestSame(t *testing.T) { // P15.2, R2: books that differ in one part alone
	one := func() book.Book {
		return book.Book{L: entries("ann", "bob", "cy"), Revoked: words(3), Gen: 5, Own: key(50)}
	}
	all := []book.Book{{}, one()}
	for _, change := range []func(b *book.Book){
		func(b *book.Book) { b.L[0], b.L[1] = b.L[1], b.L[0] },
		func(b *book.Book) { b.L[1], b.L[2] = b.L[2], b.L[1] },
		func(b *book.Book) { b.L[0].Name = "anna" },
		func(b *book.Book) { b.L[2].Name = "" },
		func(b *book.Book) { b.L[0].Key[15]++ },
		func(b *book.Book) { b.L[2].Key[0]++ },
		func(b *book.Book) { b.L = b.L[:2] },
		func(b *book.Book) { b.L = b.L[1:] },
		func(b *book.Book) { b.L = append(b.L, book.Entry{}) },
		func(b *book.Book) { b.L = nil },
		func(b *book.Book) { b.Revoked[0], b.Revoked[1] = b.Revoked[1], b.Revoked[0] },
		func(b *book.Book) { b.Revoked[2][8]++ },
		func(b *book.Book) { b.Revoked = b.Revoked[:2] },
		func(b *book.Book) { b.Revoked = b.Revoked[1:] },
		func(b *book.Book) { b.Revoked = append(b.Revoked, api.Word{}) },
		func(b *book.Book) { b.Revoked = nil },
		func(b *book.Book) { b.Gen = 6 },
		func(b *book.Book) { b.Gen = -5 },
		func(b *book.Book) { b.Gen = 0 },
		func(b *book.Book) { b.Own = api.Word{} },
		func(b *book.Book) { b.Own[15]++ },
	} {
		b := one()
		change(&b)
		all = append(all, b)
	}
	all = append(all, book.Book{L: make([]book.Entry, 1)}, book.Book{Revoked: make([]api.Word, 1)}, book.Book{Gen: 1}, book.Book{Own: key(1)})
	for i, a := range all {
		for k, b := range all {
			if got := book.Same(a, b); got != (i == k) {
				t.Errorf("Same of %d and %d: %t", i, k, got)
			}
		}
		copied := book.Book{L: append([]book.Entry{}, a.L...), Revoked: append([]api.Word{}, a.Revoked...), Gen: a.Gen, Own: a.Own}
		if !book.Same(a, copied) || !book.Same(copied, a) {
			t.Errorf("%d is not the same as a copy", i)
		}
	}
}

func TestKey(t *testing.T) { // P15.2: of what is there, of the first of two, and of what is not
	b := book.Book{L: []book.Entry{{"ann", key(1)}, {"bob", api.Word{}}, {"ann", key(3)}, {"", key(4)}, {"Zoe", key(5)}, {"bob", key(6)}}}
	for name, want := range map[string]api.Word{"ann": key(1), "bob": {}, "": key(4), "Zoe": key(5)} {
		if got, ok := book.Key(b, name); got != want || !ok {
			t.Errorf("Key of %q: %x, %t", name, got, ok)
		}
	}
	for _, name := range []string{"an", "anna", "Ann", "zoe", "ann ", "\x00", "cy"} {
		if got, ok := book.Key(b, name); got != (api.Word{}) || ok {
			t.Errorf("Key of %q: %x, %t", name, got, ok)
		}
	}
	full := great(50, 0)
	for i, name := range names(50) {
		if got, ok := book.Key(full, name); got != key(i+1) || !ok {
			t.Errorf("Key of %q: %x, %t", name, got, ok)
		}
	}
	for _, none := range []book.Book{{}, {L: []book.Entry{}, Revoked: words(1), Gen: 1, Own: key(1)}} {
		if got, ok := book.Key(none, ""); got != (api.Word{}) || ok {
			t.Errorf("Key of an empty book: %x, %t", got, ok)
		}
	}
}

func TestDead(t *testing.T) { // P15.2: what is revoked alone; neither keys nor Own count
	b := book.Book{L: entries("ann"), Revoked: []api.Word{key(10), {}, key(12)}, Gen: 1, Own: key(50)}
	for _, ticket := range []api.Word{key(10), {}, key(12)} {
		if !book.Dead(b, ticket) {
			t.Errorf("%x is not dead", ticket)
		}
	}
	for _, ticket := range []api.Word{key(1), key(11), key(50)} {
		if book.Dead(b, ticket) {
			t.Errorf("%x is dead", ticket)
		}
	}
	if book.Dead(book.Book{}, api.Word{}) || book.Dead(book.Book{Revoked: []api.Word{}}, api.Word{}) {
		t.Error("the zero ticket is dead in an empty book")
	}
	full := great(0, 200)
	for i := range 202 {
		if got := book.Dead(full, key(i)); got != (i >= 1 && i <= 200) {
			t.Errorf("Dead of %d: %t", i, got)
		}
	}
}

func TestOps(t *testing.T) { // P15.2: of each part, in order; a Next with a Gen above 0 alone
	for _, c := range []struct {
		b    book.Book
		want []book.Op
	}{
		{book.Book{}, nil},
		{book.Book{L: []book.Entry{}, Revoked: []api.Word{}}, nil},
		{book.Book{Own: key(9)}, nil},
		{book.Book{Gen: -1, Own: key(9)}, nil},
		{book.Book{Gen: math.MinInt}, nil},
		{book.Book{Gen: 1}, []book.Op{{Kind: 5, Gen: 1}}},
		{book.Book{Gen: mostGen, Own: key(9)}, []book.Op{next(mostGen, 9)}},
		{book.Book{L: entries("z", "a", "m")}, []book.Op{add("z", 1), add("a", 2), add("m", 3)}},
		{book.Book{Revoked: []api.Word{key(3), key(1), {}}}, []book.Op{revoke(3), revoke(1), {Kind: 4}}},
		{book.Book{L: []book.Entry{{"b", api.Word{}}, {"a", key(1)}}, Revoked: words(2), Gen: 0, Own: key(9)}, []book.Op{{Kind: 1, Name: "b"}, add("a", 1), revoke(1), revoke(2)}},
		{book.Book{L: entries("b", "a"), Revoked: words(2), Gen: 4, Own: key(9)}, []book.Op{add("b", 1), add("a", 2), revoke(1), revoke(2), next(4, 9)}},
	} {
		if got := book.Ops(c.b); toldOps(got) != toldOps(c.want) {
			t.Errorf("Ops of %s:\n%swant\n%s", told(c.b), toldOps(got), toldOps(c.want))
		}
	}
	if got := book.Ops(great(50, 200)); len(got) != 251 {
		t.Errorf("Ops of a full book: %d", len(got))
	}
}

// twin is what the document's words make of a book: names in order, with their keys beside them.
type twin struct {
	names   []string
	keys    map[string]api.Word
	revoked []api.Word
	gen     int
	own     api.Word
}

func newTwin() *twin { return &twin{keys: map[string]api.Word{}} }

func (w *twin) book() book.Book {
	b := book.Book{Revoked: slices.Clone(w.revoked), Gen: w.gen, Own: w.own}
	for _, name := range w.names {
		b.L = append(b.L, book.Entry{Name: name, Key: w.keys[name]})
	}
	return b
}

func (w *twin) clone() *twin {
	return &twin{slices.Clone(w.names), maps.Clone(w.keys), slices.Clone(w.revoked), w.gen, w.own}
}

// ops is an operation for each part that there is.
func (w *twin) ops() []book.Op {
	var l []book.Op
	for _, name := range w.names {
		l = append(l, book.Op{Kind: 1, Name: name, Key: w.keys[name]})
	}
	for _, ticket := range w.revoked {
		l = append(l, book.Op{Kind: 4, Key: ticket})
	}
	if w.gen > 0 {
		l = append(l, book.Op{Kind: 5, Key: w.own, Gen: w.gen})
	}
	return l
}

func (w *twin) do(x book.Op) api.Errno {
	_, present := w.keys[x.Name]
	switch {
	case !rightAs(x):
		return api.ErrForm
	case x.Kind == 1 && present, x.Kind == 4 && slices.Contains(w.revoked, x.Key), x.Kind == 5 && x.Gen <= w.gen:
		return api.ErrTwice
	case x.Kind == 1 && len(w.names) == 50, x.Kind == 4 && len(w.revoked) == 200:
		return api.ErrFull
	case (x.Kind == 2 || x.Kind == 3) && !present:
		return api.ErrName
	}
	switch x.Kind {
	case 1:
		w.names = append(w.names, x.Name)
		w.keys[x.Name] = x.Key
	case 2:
		w.names = slices.DeleteFunc(w.names, func(name string) bool { return name == x.Name })
		delete(w.keys, x.Name)
	case 3:
		w.keys[x.Name] = x.Key
	case 4:
		w.revoked = append(w.revoked, x.Key)
	case 5:
		w.gen, w.own = x.Gen, x.Key
	}
	return api.OK
}

// anyOp is an operation at random: mostly a valid one, of so many names.
func anyOp(r *rand.Rand, many int) book.Op {
	kind := []int{1, 1, 1, 2, 3, 4, 4, 5}[r.Intn(8)]
	x := book.Op{Kind: kind}
	if strings.Contains(has[kind], "N") || r.Intn(30) == 0 {
		x.Name = "p" + strconv.Itoa(r.Intn(many))
	}
	if strings.Contains(has[kind], "K") || r.Intn(30) == 0 {
		x.Key = key(r.Intn(6 * many))
	}
	if strings.Contains(has[kind], "G") || r.Intn(30) == 0 {
		x.Gen = r.Intn(1 + r.Intn(1000))
	}
	if r.Intn(30) == 0 {
		x.Kind = r.Intn(8)
	}
	return x
}

func TestLongRuns(t *testing.T) { // P15.2, P15.4: against the document's words; Ops restore each book; Gen and what is revoked stay
	met := map[api.Errno]int{}
	for seed := range 12 {
		r := rand.New(rand.NewSource(int64(seed)))
		many := []int{3, 20, 55, 90}[seed%4]
		var b book.Book
		w := newTwin()
		for step := range 1500 {
			x := anyOp(r, many)
			changed, err := book.Apply(b, x)
			if want := w.do(x); err != want || told(changed) != told(w.book()) {
				t.Fatalf("seed %d, step %d, %v: error %d, want %d; %.200s, want %.200s", seed, step, x, err, want, told(changed), told(w.book()))
			}
			met[err]++
			if changed.Gen < b.Gen || slices.ContainsFunc(b.Revoked, func(ticket api.Word) bool { return !book.Dead(changed, ticket) }) {
				t.Fatalf("seed %d, step %d: Gen became less, or a ticket counts again", seed, step)
			}
			if b = changed; step%10 == 0 {
				restores(t, b)
			}
		}
	}
	for _, err := range []api.Errno{api.OK, api.ErrForm, api.ErrName, api.ErrTwice, api.ErrFull} {
		if met[err] < 100 {
			t.Errorf("error %d was met %d times", err, met[err])
		}
	}
}

// restores: Ops of a book, applied to the empty one, make it again.
func restores(t *testing.T, b book.Book) {
	t.Helper()
	made := after(t, book.Book{}, book.Ops(b)...)
	is(t, "what Ops make", made, b)
	if !book.Same(made, b) {
		t.Error("what Ops make is not the same")
	}
}

func TestOpsRestore(t *testing.T) { // P15.4: the empty book, full ones, and such as had more in them before
	restores(t, book.Book{})
	restores(t, great(50, 200))
	var all []book.Op
	for _, name := range names(50) {
		all = append(all, add(name, 3))
	}
	b := after(t, book.Book{}, all...)
	restores(t, b)
	b = after(t, b, remove("p1"), remove("p50"), add("p1", 4), rekey("p2", 5), remove("p3"), next(3, 1), revoke(2), revoke(1), next(mostGen, 2))
	restores(t, b)
	restores(t, after(t, book.Book{}, next(1, 1)))
	restores(t, after(t, book.Book{}, book.Op{Kind: 5, Gen: 1}))
	restores(t, after(t, book.Book{}, add("a", 1), remove("a")))
}

// scribble writes over all parts of a book, and over what is behind the ends of its lists, as far as their memory goes.
func scribble(b book.Book) {
	l, revoked := b.L[:cap(b.L)], b.Revoked[:cap(b.Revoked)]
	for i := range l {
		l[i] = book.Entry{Name: "scribble", Key: key(999)}
	}
	for i := range revoked {
		revoked[i] = key(999)
	}
}

// roomy is a book whose lists have memory behind their ends.
func roomy(b book.Book) book.Book {
	b.L = append(make([]book.Entry, 0, len(b.L)+5), b.L...)
	b.Revoked = append(make([]api.Word, 0, len(b.Revoked)+5), b.Revoked...)
	return b
}

// shareOps is operations with every error and without one, on a book as great makes them.
func shareOps() []book.Op {
	return []book.Op{
		add("new", 9), add("p1", 9), remove("p1"), remove("p3"), remove("none"), rekey("p1", 9), rekey("p3", 9), rekey("none", 9),
		revoke(900), revoke(1), next(8, 9), next(7, 9), {}, {Kind: 1, Name: "p1", Gen: 1},
	}
}

func TestNothingIsShared(t *testing.T) { // R3: what Apply was handed is neither changed nor shared with what it returns, beside an error, too
	for _, size := range [][2]int{{3, 3}, {50, 200}, {5, 0}, {51, 201}} {
		for _, x := range shareOps() {
			b, twin := roomy(great(size[0], size[1])), roomy(great(size[0], size[1]))
			all := book.Book{L: b.L[:cap(b.L)], Revoked: b.Revoked[:cap(b.Revoked)]}
			before := told(all)
			want, _ := book.Apply(twin, x)
			got, _ := book.Apply(b, x)
			again, _ := book.Apply(b, x)
			if told(all) != before {
				t.Errorf("%v wrote into what it was handed", x)
			}
			wanted := told(want)
			scribble(again)
			is(t, "what was returned, behind what was written into another", got, want)
			if told(all) != before {
				t.Errorf("%v: what was written into a result changed an argument", x)
			}
			_ = append(append(got.L, book.Entry{}), book.Entry{})
			_ = append(append(got.Revoked, api.Word{}), api.Word{})
			scribble(b)
			if told(got) != wanted {
				t.Errorf("%v: what was written into an argument changed a result", x)
			}
		}
	}
}

func TestArgumentsStay(t *testing.T) { // R3: of the calls that only ask, and of Read
	b := roomy(great(5, 5))
	all := book.Book{L: b.L[:cap(b.L)], Revoked: b.Revoked[:cap(b.Revoked)], Gen: b.Gen, Own: b.Own}
	before := told(all)
	book.Same(b, b)
	book.Key(b, "p3")
	book.Dead(b, key(3))
	ops, others := book.Ops(b), book.Ops(b)
	want := toldOps(others)
	full := ops[:cap(ops)]
	for i := range full {
		full[i] = add("scribble", 999)
	}
	if told(all) != before || toldOps(others) != want || toldOps(book.Ops(b)) != want {
		t.Error("what was asked has changed")
	}
	scribble(b)
	if toldOps(others) != want {
		t.Error("Ops share memory with the book")
	}

	bytes := []byte(enc(add("ann", 1)))
	x, err := book.Read(bytes)
	if string(bytes) != enc(add("ann", 1)) {
		t.Error("Read wrote into its argument")
	}
	for i := range bytes {
		bytes[i] = '#'
	}
	if x != add("ann", 1) || err != api.OK {
		t.Errorf("error %d and %v", err, x)
	}
	first, _ := book.Put(x)
	second, _ := book.Put(x)
	for i := range first[:cap(first)] {
		first[:cap(first)][i] = '#'
	}
	if string(second) != enc(x) {
		t.Error("what Put returned is shared with what it returned before")
	}
}

func TestGreatArguments(t *testing.T) { // R7: names and bytes by the hundreds of millions; books with more in them than there may be
	name := strings.Repeat("a", 1<<28)
	for kind := range 7 {
		if x := (book.Op{Kind: kind, Name: name}); book.Right(x) {
			t.Errorf("kind %d with a great name is valid", kind)
		}
		if b, err := book.Put(book.Op{Kind: kind, Name: name, Gen: 1}); err != api.ErrForm || len(b) > 0 {
			t.Errorf("error %d", err)
		}
	}
	if _, ok := book.Key(book.Book{L: entries(name, "a")}, name[:1<<28-1]); ok {
		t.Error("a key of another name")
	}
	bytes := make([]byte, 1<<28)
	for kind := range 7 {
		bytes[0] = byte(kind)
		if x, err := book.Read(bytes); err != api.ErrForm || x != (book.Op{}) {
			t.Errorf("error %d and %v", err, x)
		}
	}
	b := great(100000, 100000)
	applies(t, "Add", b, add("new", 1), b, api.ErrFull)
	applies(t, "Revoke", b, revoke(0), b, api.ErrFull)
	applies(t, "Remove of none", b, remove("new"), b, api.ErrName)
	applies(t, "Remove of the last", b, remove("p100000"), book.Book{L: b.L[:99999], Revoked: b.Revoked, Gen: b.Gen, Own: b.Own}, api.OK)
	if got := book.Ops(b); len(got) != 200001 {
		t.Errorf("%d operations", len(got))
	}
	if !book.Same(b, great(100000, 100000)) || book.Same(b, great(100000, 99999)) {
		t.Error("Same of great books")
	}
}
