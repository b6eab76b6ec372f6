package note_test

import (
	"bytes"
	"encoding/binary"
	"encoding/hex"
	"go/ast"
	"go/parser"
	"go/token"
	"math"
	"math/rand"
	"path/filepath"
	"slices"
	"strings"
	"sync"
	"testing"

	"bartizan/api"
	"bartizan/note"
)

// letters is the names of all fields but Kind.
var letters = strings.Split("A B X Y P Q R", " ")

// has is the fields of each kind, by the document's words.
var has = map[int][]string{
	1:  {"A", "X"},
	2:  {"B", "P", "Y"},
	3:  {"P", "Q", "Y"},
	4:  {"Q", "P"},
	5:  {"P"},
	6:  {"A", "X"},
	7:  {"A", "X", "B", "Y"},
	8:  {"P", "Q"},
	9:  {"P", "Q", "R", "Y"},
	10: {"P"},
	11: {"Q", "X"},
	12: {"Y", "P"},
	13: {"P"},
	14: {"A", "X"},
	15: {"P"},
	16: {"A"},
}

// sample is bytes without a pattern, the same ones in each run.
func sample(n int) []byte {
	b := make([]byte, n)
	rand.New(rand.NewSource(int64(n))).Read(b)
	return b
}

func word(from int) (w api.Word) {
	for i := range w {
		w[i] = byte(from + i)
	}
	return w
}

// with is n with the bytes b as one of its fields.
func with(n note.Note, letter string, b []byte) note.Note {
	switch letter {
	case "A":
		n.A = string(b)
	case "B":
		n.B = string(b)
	case "X":
		n.X = api.Word(b)
	case "Y":
		n.Y = api.Word(b)
	case "P":
		n.P = b
	case "Q":
		n.Q = b
	case "R":
		n.R = b
	}
	return n
}

// of is one of the fields of n, as bytes.
func of(n note.Note, letter string) []byte {
	return map[string][]byte{"A": []byte(n.A), "B": []byte(n.B), "X": n.X[:], "Y": n.Y[:], "P": n.P, "Q": n.Q, "R": n.R}[letter]
}

func isName(letter string) bool { return letter == "A" || letter == "B" }
func isWord(letter string) bool { return letter == "X" || letter == "Y" }
func isBlob(letter string) bool { return letter == "P" || letter == "Q" || letter == "R" }

// full is a valid note of a kind, each of its fields unlike the others.
func full(kind int) note.Note {
	n := note.Note{Kind: kind}
	for i, letter := range has[kind] {
		switch {
		case isName(letter):
			n = with(n, letter, []byte("name"+strings.ToLower(letter)))
		case isWord(letter):
			w := word(100 + 20*i)
			n = with(n, letter, w[:])
		default:
			n = with(n, letter, sample(5+3*i))
		}
	}
	return n
}

// random is a valid note of a kind.
func random(kind int, r *rand.Rand) note.Note {
	const of = "abcdefghijklmnopqrstuvwxyz0123456789"
	n := note.Note{Kind: kind}
	for _, letter := range has[kind] {
		var b []byte
		switch {
		case isName(letter):
			b = make([]byte, 1+r.Intn(20))
			for i := range b {
				b[i] = of[r.Intn(len(of))]
			}
		case isWord(letter):
			b = make([]byte, 16)
			r.Read(b)
		default:
			b = make([]byte, []int{0, r.Intn(8), r.Intn(501), 500}[r.Intn(4)])
			r.Read(b)
		}
		n = with(n, letter, b)
	}
	return n
}

// valid is valid notes of each kind: the ends of what its fields can be, and many without a pattern.
func valid(kind int) []note.Note {
	all := []note.Note{full(kind), empty(kind)}
	for _, letter := range has[kind] {
		var ends [][]byte
		switch {
		case isName(letter):
			ends = [][]byte{[]byte("a"), []byte("z"), []byte("0"), []byte("9"), bytes.Repeat([]byte("z"), 20), []byte("abcdefghij0123456789")}
		case isWord(letter):
			ends = [][]byte{make([]byte, 16), bytes.Repeat([]byte{255}, 16)}
			for i := range 16 {
				one := make([]byte, 16)
				one[i] = 1
				ends = append(ends, one)
			}
		default:
			for _, size := range []int{0, 1, 2, 15, 16, 17, 254, 255, 256, 257, 499, api.MostBlob} {
				ends = append(ends, sample(size), make([]byte, size))
			}
		}
		for _, b := range ends {
			all = append(all, with(full(kind), letter, b), with(empty(kind), letter, b))
		}
	}
	r := rand.New(rand.NewSource(int64(kind)))
	for range 100 {
		all = append(all, random(kind, r))
	}
	return all
}

// empty is a valid note of a kind with as little in it as can be.
func empty(kind int) note.Note {
	n := note.Note{Kind: kind}
	for _, letter := range has[kind] {
		if isName(letter) {
			n = with(n, letter, []byte("a"))
		}
	}
	return n
}

// encoding is the encoding of a note by the document's words.
func encoding(n note.Note) []byte {
	var parts [][]byte
	for _, letter := range has[n.Kind] {
		parts = append(parts, of(n, letter))
	}
	return encoded(n.Kind, parts)
}

// encoded is a kind and fields of any number and length that two bytes hold, as bytes.
func encoded(kind int, parts [][]byte) []byte {
	b := []byte{byte(kind)}
	for _, part := range parts {
		b = binary.BigEndian.AppendUint16(b, uint16(len(part)))
		b = append(b, part...)
	}
	return b
}

// parts is the fields of a valid note, as bytes that may be changed.
func parts(n note.Note) [][]byte {
	var all [][]byte
	for _, letter := range has[n.Kind] {
		all = append(all, bytes.Clone(of(n, letter)))
	}
	return all
}

// decoded is what Read must answer.
func decoded(b []byte) (note.Note, api.Errno) {
	if len(b) == 0 || has[int(b[0])] == nil {
		return note.Note{}, api.ErrForm
	}
	n, rest := note.Note{Kind: int(b[0])}, b[1:]
	for _, letter := range has[n.Kind] {
		if len(rest) < 2 {
			return note.Note{}, api.ErrForm
		}
		length := int(binary.BigEndian.Uint16(rest))
		rest = rest[2:]
		if len(rest) < length || !fits(letter, rest[:length]) {
			return note.Note{}, api.ErrForm
		}
		n = with(n, letter, rest[:length])
		rest = rest[length:]
	}
	if len(rest) > 0 {
		return note.Note{}, api.ErrForm
	}
	return n, api.OK
}

// fits tells whether bytes can be a field of a valid note.
func fits(letter string, b []byte) bool {
	switch {
	case isName(letter):
		return len(b) >= 1 && len(b) <= 20 && len(bytes.Trim(b, "abcdefghijklmnopqrstuvwxyz0123456789")) == 0
	case isWord(letter):
		return len(b) == 16
	default:
		return len(b) <= 500
	}
}

// equal is what Same must answer.
func equal(a, b note.Note) bool {
	for _, letter := range letters {
		if !bytes.Equal(of(a, letter), of(b, letter)) {
			return false
		}
	}
	return a.Kind == b.Kind
}

// copied is n with bytes of its own.
func copied(n note.Note) note.Note {
	n.P, n.Q, n.R = bytes.Clone(n.P), bytes.Clone(n.Q), bytes.Clone(n.R)
	return n
}

// put is what Put answers where it must not refuse.
func put(t *testing.T, n note.Note) []byte {
	t.Helper()
	b, err := note.Put(n)
	if err != api.OK {
		t.Fatalf("Put of %+v: error %d", n, err)
	}
	return b
}

// read is what Read answers where it must not refuse.
func read(t *testing.T, b []byte) note.Note {
	t.Helper()
	n, err := note.Read(b)
	if err != api.OK {
		t.Fatalf("Read of %x: error %d", b, err)
	}
	return n
}

// isNone tells whether a note is the zero one (R1).
func isNone(n note.Note) bool { return equal(n, note.Note{}) }

// refuses: a note that is not valid has no encoding; with the error there are no bytes (R1).
func refuses(t *testing.T, n note.Note) {
	t.Helper()
	if note.Right(n) {
		t.Errorf("valid: %+v", n)
	}
	if b, err := note.Put(n); err != api.ErrForm || len(b) != 0 {
		t.Errorf("Put of %+v: error %d and %d bytes", n, err, len(b))
	}
}

// takes: a valid note's encoding is b, and it comes back from it.
func takes(t *testing.T, n note.Note, b []byte) {
	t.Helper()
	if !note.Right(n) {
		t.Errorf("not valid: %+v", n)
	}
	if got := put(t, n); !bytes.Equal(got, b) {
		t.Errorf("Put of %+v: %x, want %x", n, got, b)
	}
	if back := read(t, b); !equal(back, n) {
		t.Errorf("Read of %x: %+v, want %+v", b, back, n)
	}
}

// readRefuses: with the error the note is zero (R1).
func readRefuses(t *testing.T, b []byte) {
	t.Helper()
	if n, err := note.Read(b); err != api.ErrForm || !isNone(n) {
		t.Errorf("Read of %d bytes, the first %.60x: error %d and %+v", len(b), b, err, n)
	}
}

func TestExample(t *testing.T) { // P10.1: the chapter's example
	takes(t, note.Note{Kind: note.NS5}, []byte{5, 0, 0})
}

func TestKinds(t *testing.T) { // P10.1: the number of each kind
	numbers := []int{
		note.NS1, note.NS2, note.NS3, note.NS4, note.NS5, note.KSL1, note.KSL2, note.KSL3, note.KSL4, note.KSL5,
		note.Again1, note.Again2, note.Again3, note.Time1, note.Time2, note.Sorry,
	}
	for i, n := range numbers {
		if n != i+1 {
			t.Errorf("kind %d has the number %d", i+1, n)
		}
	}
}

func TestKnown(t *testing.T) { // P10.1: a note of each kind, its encoding written out
	x, y := word(0x30), word('A')
	const atX, atY = "\x00\x100123456789:;<=>?", "\x00\x10ABCDEFGHIJKLMNOP"
	p, q, r := []byte("pp"), []byte("q"), []byte("rrr")
	const atP, atQ, atR = "\x00\x02pp", "\x00\x01q", "\x00\x03rrr"
	for _, c := range []struct {
		n    note.Note
		want string
	}{
		{note.Note{Kind: note.NS1, A: "al", X: x}, "\x01\x00\x02al" + atX},
		{note.Note{Kind: note.NS2, B: "bob", P: p, Y: y}, "\x02\x00\x03bob" + atP + atY},
		{note.Note{Kind: note.NS3, P: p, Q: q, Y: y}, "\x03" + atP + atQ + atY},
		{note.Note{Kind: note.NS4, Q: q, P: p}, "\x04" + atQ + atP},
		{note.Note{Kind: note.NS5, P: p}, "\x05" + atP},
		{note.Note{Kind: note.KSL1, A: "al", X: x}, "\x06\x00\x02al" + atX},
		{note.Note{Kind: note.KSL2, A: "al", X: x, B: "bob", Y: y}, "\x07\x00\x02al" + atX + "\x00\x03bob" + atY},
		{note.Note{Kind: note.KSL3, P: p, Q: q}, "\x08" + atP + atQ},
		{note.Note{Kind: note.KSL4, P: p, Q: q, R: r, Y: y}, "\x09" + atP + atQ + atR + atY},
		{note.Note{Kind: note.KSL5, P: p}, "\x0a" + atP},
		{note.Note{Kind: note.Again1, Q: q, X: x}, "\x0b" + atQ + atX},
		{note.Note{Kind: note.Again2, Y: y, P: p}, "\x0c" + atY + atP},
		{note.Note{Kind: note.Again3, P: p}, "\x0d" + atP},
		{note.Note{Kind: note.Time1, A: "al", X: x}, "\x0e\x00\x02al" + atX},
		{note.Note{Kind: note.Time2, P: p}, "\x0f" + atP},
		{note.Note{Kind: note.Sorry, A: "al"}, "\x10\x00\x02al"},
	} {
		takes(t, c.n, []byte(c.want))
	}
}

func TestValid(t *testing.T) { // P10.1, P10.2, P2: many notes of each kind, there and back
	for kind := range has {
		for _, n := range valid(kind) {
			takes(t, n, encoding(n))
			b := put(t, n)
			if again := put(t, read(t, b)); !bytes.Equal(again, b) {
				t.Errorf("%x: put again as %x", b, again)
			}
			if back := read(t, b); !note.Same(back, n) || !note.Same(n, back) || !note.Right(back) {
				t.Errorf("%+v: back as %+v", n, back)
			}
		}
	}
}

func TestEncodingsAreApart(t *testing.T) { // P10.2, P2: of all notes, of one kind or of two, no two have the same one
	seen := map[string]note.Note{}
	for kind := range has {
		notes := valid(kind)
		for _, n := range slices.Clone(notes) { // cut between two fields elsewhere
			if len(n.P) > 0 && slices.Contains(has[kind], "Q") {
				m := copied(n)
				m.Q = append(m.Q, m.P[0])
				m.P = m.P[1:]
				notes = append(notes, m)
			}
		}
		for _, n := range notes {
			if !note.Right(n) {
				continue
			}
			b := put(t, n)
			if other, ok := seen[string(b)]; ok && !equal(other, n) {
				t.Errorf("%+v and %+v: both are %x", n, other, b)
			}
			seen[string(b)] = n
		}
	}
}

func TestNoKind(t *testing.T) { // P10.1, R1: 0, 17, -1 and kinds far away, one byte of which may be that of a kind
	kinds := []int{0, 17, 18, 32, 100, 127, 128, 255, 256, -1, -2, -16, -17, -255, -256, math.MaxInt, math.MinInt}
	for kind := range has {
		kinds = append(kinds, kind+16, kind+256, kind-256, kind+512, kind-512, kind+1<<16, kind-1<<16, kind+1<<32, kind-1<<32, kind+math.MinInt, -kind)
	}
	for _, kind := range kinds {
		if has[kind] != nil {
			continue
		}
		refuses(t, note.Note{Kind: kind})
		for like := range has {
			n := full(like)
			n.Kind = kind
			refuses(t, n)
			n = empty(like)
			n.Kind = kind
			refuses(t, n)
		}
		everything := note.Note{Kind: kind, A: "a", B: "b", X: word(1), Y: word(2), P: []byte{1}, Q: []byte{2}, R: []byte{3}}
		refuses(t, everything)
	}
}

// noNames is texts that are no names.
func noNames() []string {
	return []string{
		"", "A", "Z", "aliCe", "a b", " a", "a ", "a-b", "a\n", "\x00", "a\x00", "é", "aé", "\xff", "０", "{", "`", "/", ":",
		strings.Repeat("a", 21), strings.Repeat("a", 22), strings.Repeat("0", 256), strings.Repeat("a", 257), strings.Repeat("a", 500),
		strings.Repeat("a", 20) + "\x00", strings.Repeat("a", 19) + "A",
	}
}

func TestNoNames(t *testing.T) { // P10.1, R1: wherever a kind has a name
	for kind, fields := range has {
		for i, letter := range fields {
			if !isName(letter) {
				continue
			}
			for _, s := range noNames() {
				refuses(t, with(full(kind), letter, []byte(s)))
				refuses(t, with(empty(kind), letter, []byte(s)))
				all := parts(full(kind))
				all[i] = []byte(s)
				readRefuses(t, encoded(kind, all))
			}
			refuses(t, with(full(kind), letter, make([]byte, 1<<16+1)))
			refuses(t, with(full(kind), letter, bytes.Repeat([]byte("a"), 501)))
		}
	}
}

func TestLongBlobs(t *testing.T) { // P10.1, R1: of MostBlob + 1 bytes and more, wherever a kind has them
	for kind, fields := range has {
		for i, letter := range fields {
			if !isBlob(letter) {
				continue
			}
			for _, size := range []int{api.MostBlob + 1, 502, 512, 756, 1000, 1<<16 - 1, 1 << 16, 1<<16 + 5} {
				refuses(t, with(full(kind), letter, sample(size)))
				refuses(t, with(empty(kind), letter, make([]byte, size)))
				if size < 1<<16 {
					all := parts(full(kind))
					all[i] = sample(size)
					readRefuses(t, encoded(kind, all))
				}
			}
		}
	}
}

func TestBlobs(t *testing.T) { // P10.1: of every length up to MostBlob, wherever a kind has them
	for kind, fields := range has {
		for _, letter := range fields {
			if !isBlob(letter) {
				continue
			}
			for _, size := range []int{0, 1, 255, 256, api.MostBlob} {
				for _, b := range [][]byte{sample(size), make([]byte, size), bytes.Repeat([]byte{255}, size)} {
					takes(t, with(full(kind), letter, b), encoding(with(full(kind), letter, b)))
				}
			}
		}
	}
	for size := range api.MostBlob + 1 {
		n := note.Note{Kind: note.KSL4, P: sample(size), Q: sample(api.MostBlob - size), R: sample(size / 2), Y: word(size)}
		takes(t, n, encoding(n))
	}
	most := note.Note{Kind: note.KSL4, P: sample(500), Q: sample(500), R: sample(500), Y: word(1)}
	takes(t, most, encoding(most))
}

// alone is values of a field that are neither empty nor zero.
func alone(letter string) [][]byte {
	switch {
	case isName(letter):
		return [][]byte{[]byte("a"), []byte("bob"), []byte("A"), {0}, []byte(" "), bytes.Repeat([]byte("a"), 20), bytes.Repeat([]byte("a"), 21)}
	case isWord(letter):
		all := [][]byte{bytes.Repeat([]byte{255}, 16), sample(16)}
		for i := range 16 {
			for _, c := range []byte{1, 128, 255} {
				one := make([]byte, 16)
				one[i] = c
				all = append(all, one)
			}
		}
		return all
	default:
		return [][]byte{{0}, {1}, {0, 0}, sample(7), make([]byte, 16), sample(500), sample(501)}
	}
}

func TestFieldsOfOtherKinds(t *testing.T) { // P10.1, R1: each field that a kind does not have, alone
	for kind, fields := range has {
		for _, letter := range letters {
			if slices.Contains(fields, letter) {
				continue
			}
			for _, b := range alone(letter) {
				refuses(t, with(full(kind), letter, b))
				refuses(t, with(empty(kind), letter, b))
			}
		}
	}
}

func TestNilAndEmpty(t *testing.T) { // P10.1, R2: in the fields that a kind has, and in those it has not
	for kind := range has {
		n := empty(kind)
		for _, none := range [][]byte{nil, {}, sample(9)[4:4]} {
			n.P, n.Q, n.R = none, none, none
			takes(t, n, encoding(empty(kind)))
			if !note.Same(n, empty(kind)) || !note.Same(empty(kind), n) {
				t.Errorf("kind %d: nil and empty bytes are not the same", kind)
			}
			for _, letter := range letters {
				if isBlob(letter) && !slices.Contains(has[kind], letter) {
					takes(t, with(full(kind), letter, none), encoding(full(kind)))
				}
			}
		}
	}
	for _, none := range [][]byte{nil, {}, sample(9)[4:4]} {
		readRefuses(t, none)
	}
}

func TestReadOfNoKind(t *testing.T) { // P10.1, R1: a first byte that is no kind, whatever follows
	for first := range 256 {
		if has[first] != nil {
			continue
		}
		readRefuses(t, []byte{byte(first)})
		readRefuses(t, []byte{byte(first), 0, 0})
		for kind := range has {
			b := encoding(full(kind))
			b[0] = byte(first)
			readRefuses(t, b)
		}
	}
	for kind := range has {
		readRefuses(t, []byte{byte(kind)})
	}
}

func TestReadOfOtherLengths(t *testing.T) { // P10.1, R1: one byte less and one more, and all beginnings
	for kind := range has {
		for _, n := range []note.Note{full(kind), empty(kind), random(kind, rand.New(rand.NewSource(7)))} {
			b := encoding(n)
			for size := range b {
				readRefuses(t, b[:size])
			}
			for c := range 256 {
				readRefuses(t, append(bytes.Clone(b), byte(c)))
			}
			readRefuses(t, append(bytes.Clone(b), b...))
			readRefuses(t, b[1:])
		}
	}
}

func TestReadOfOtherCounts(t *testing.T) { // P10.1, R1: a field too many and one too few, at each place
	for kind, fields := range has {
		all := parts(full(kind))
		w := word(3)
		for i := range len(fields) + 1 {
			for _, more := range [][]byte{nil, {1}, []byte("bob"), w[:], sample(500)} {
				readRefuses(t, encoded(kind, slices.Insert(slices.Clone(all), i, more)))
			}
			if i < len(fields) {
				readRefuses(t, encoded(kind, slices.Delete(slices.Clone(all), i, i+1)))
			}
		}
		readRefuses(t, encoded(kind, slices.Concat(all, all)))
		readRefuses(t, encoded(kind, slices.Concat(all, make([][]byte, 20-len(all)))))
		readRefuses(t, encoded(kind, slices.Concat(all, make([][]byte, 21-len(all)))))
		readRefuses(t, encoded(kind, make([][]byte, 20)))
		readRefuses(t, encoded(kind, make([][]byte, 21)))
	}
}

func TestReadOfGreatLengths(t *testing.T) { // P10.1, R1: above MostBlob, in each field, whether or not so many bytes follow
	for kind, fields := range has {
		all := parts(full(kind))
		for i := range fields {
			front := encoded(kind, all[:i])
			for _, length := range []int{501, 511, 512, 513, 0x1f5, 0x2f4, 0xff00, 0xffff} {
				for _, more := range []int{0, 1, 500, length - 1, length, length + 1} {
					b := binary.BigEndian.AppendUint16(bytes.Clone(front), uint16(length))
					b = append(b, make([]byte, more)...)
					readRefuses(t, b)
					readRefuses(t, append(b, encoded(0, all[i+1:])[1:]...))
				}
			}
		}
	}
}

func TestReadOfOtherWords(t *testing.T) { // P10.1, R1: an X or Y of 15 and of 17 bytes, and of others
	for kind, fields := range has {
		for i, letter := range fields {
			if !isWord(letter) {
				continue
			}
			for _, size := range []int{0, 1, 8, 14, 15, 17, 18, 20, 31, 32, 256, 256 + 16, 500} {
				all := parts(full(kind))
				all[i] = sample(size)
				readRefuses(t, encoded(kind, all))
			}
		}
	}
}

func TestReadOfOtherKinds(t *testing.T) { // P10.1: the fields of another kind are ErrForm, but where this kind's can be the same
	for kind, fields := range has {
		for other := range has {
			for _, n := range valid(kind)[:20] {
				b := encoding(n)
				b[0] = byte(other)
				want, wantErr := decoded(b)
				if got, err := note.Read(b); err != wantErr || !equal(got, want) {
					t.Errorf("Read of %x: error %d and %+v, want error %d and %+v", b, err, got, wantErr, want)
				}
			}
			if len(has[other]) != len(fields) {
				b := encoding(full(kind))
				b[0] = byte(other)
				readRefuses(t, b)
			}
		}
	}
	for _, c := range []struct {
		of, as int
		good   bool
	}{
		{note.NS1, note.KSL1, true},
		{note.NS1, note.Time1, true},
		{note.NS1, note.NS4, true},
		{note.NS1, note.KSL3, true},
		{note.NS1, note.Again1, true},
		{note.NS1, note.Again2, false}, // Y is of 16 bytes
		{note.NS1, note.Sorry, false},  // a field too many
		{note.NS1, note.KSL2, false},   // two too few
		{note.NS2, note.NS3, true},
		{note.NS3, note.NS2, false}, // B is a name
		{note.NS4, note.NS1, false},
		{note.NS5, note.Sorry, false},
		{note.Sorry, note.NS5, true},
		{note.KSL2, note.KSL4, true},
		{note.KSL4, note.KSL2, false},
		{note.Again1, note.Again2, false},
		{note.Again2, note.KSL3, true},
	} {
		b := encoding(full(c.of))
		b[0] = byte(c.as)
		if !c.good {
			readRefuses(t, b)
		} else if n := read(t, b); n.Kind != c.as || !bytes.Equal(put(t, n), b) {
			t.Errorf("kind %d as kind %d: %+v", c.of, c.as, n)
		}
	}
}

func TestReadOfAll(t *testing.T) { // P10.1, P10.2, P0: all short bytes out of a few, and long ones with a few changed: as the document's words have it
	check := func(b []byte) {
		want, wantErr := decoded(b)
		got, err := note.Read(b)
		if err != wantErr || !equal(got, want) {
			t.Fatalf("Read of %x: error %d and %+v, want error %d and %+v", b, err, got, wantErr, want)
		}
		if err == api.OK && !bytes.Equal(put(t, got), b) {
			t.Fatalf("%x: put again as %x", b, put(t, got))
		}
	}
	from := []byte{0, 1, 2, 97}
	for kind := range 18 {
		for n := range 6 {
			b := make([]byte, n+1)
			b[0] = byte(kind)
			for count := range 1 << (2 * n) {
				for i := range n {
					b[1+i] = from[count>>(2*i)&3]
				}
				check(b)
			}
		}
	}
	r := rand.New(rand.NewSource(4))
	for range 20000 {
		b := encoding(random(1+r.Intn(16), r))
		for range r.Intn(3) {
			b[r.Intn(len(b))] = byte(r.Intn(256))
		}
		for range r.Intn(3) {
			b[r.Intn(min(len(b), 6))] = byte(r.Intn(20))
		}
		check(b[:len(b)-min(len(b), r.Intn(3))])
	}
	for n := range 300 {
		check(sample(n))
	}
}

// others is notes that differ from n in one field alone.
func others(n note.Note) []note.Note {
	var all []note.Note
	for _, kind := range []int{n.Kind + 1, n.Kind - 1, n.Kind + 256, n.Kind - 256, n.Kind + 1<<32, -n.Kind - 1, math.MaxInt} {
		m := n
		m.Kind = kind
		all = append(all, m)
	}
	for _, letter := range letters {
		before := of(n, letter)
		for i := range before {
			for _, bit := range []byte{1, 32, 128} {
				b := bytes.Clone(before)
				b[i] ^= bit
				all = append(all, with(n, letter, b))
			}
		}
		if isWord(letter) {
			continue
		}
		all = append(all, with(n, letter, append(bytes.Clone(before), 0)), with(n, letter, append(bytes.Clone(before), 'a')))
		if len(before) > 0 {
			all = append(all, with(n, letter, before[:len(before)-1]), with(n, letter, before[1:]), with(n, letter, nil), with(n, letter, append(bytes.Clone(before), before...)))
		}
	}
	return slices.DeleteFunc(all, func(m note.Note) bool { return equal(m, n) })
}

func TestSame(t *testing.T) { // P10.1, R2: one field alone makes the difference, in notes that are valid or not
	notes := []note.Note{
		{},
		{Kind: -1},
		{Kind: 17, A: "A"},
		{Kind: math.MinInt, A: "a b", B: strings.Repeat("b", 300), X: word(1), Y: word(2), P: sample(3), Q: sample(4), R: sample(5)},
		{Kind: note.NS5, A: "alice", B: "bob", X: word(1), Y: word(2), P: sample(30), Q: sample(30), R: sample(30)},
		{Kind: note.NS5, P: sample(501)},
		{P: []byte{0}, Q: []byte{0, 0}, R: []byte{0, 0, 0}},
	}
	for kind := range has {
		notes = append(notes, full(kind), empty(kind))
	}
	for _, n := range notes {
		if !note.Same(n, n) || !note.Same(n, copied(n)) || !note.Same(copied(n), n) {
			t.Errorf("not the same as itself: %+v", n)
		}
		for _, m := range others(n) {
			if note.Same(n, m) || note.Same(m, n) {
				t.Errorf("the same: %+v and %+v", n, m)
			}
		}
	}
	for _, n := range notes {
		for _, m := range notes {
			if note.Same(n, m) != equal(n, m) {
				t.Errorf("%+v and %+v: same %t", n, m, note.Same(n, m))
			}
		}
	}
}

func TestSameOfSwapped(t *testing.T) { // P10.1: what stands in one field does not stand for another
	n := note.Note{Kind: 3, A: "a", B: "b", X: word(1), Y: word(2), P: sample(3), Q: sample(4), R: sample(5)}
	for i, one := range letters {
		for _, other := range letters[i+1:] {
			if isWord(one) != isWord(other) {
				continue
			}
			m := with(with(n, one, of(n, other)), other, of(n, one))
			if note.Same(n, m) || note.Same(m, n) {
				t.Errorf("%s and %s swapped: the same", one, other)
			}
		}
	}
	if note.Same(note.Note{A: "a"}, note.Note{B: "a"}) || note.Same(note.Note{P: []byte{1}}, note.Note{Q: []byte{1}}) || note.Same(note.Note{X: word(1)}, note.Note{Y: word(1)}) {
		t.Error("the same, with the same bytes in another field")
	}
}

func TestSameOfNilAndEmpty(t *testing.T) { // P10.1, R2: in notes that are valid or not
	for _, kind := range []int{-1, 0, 3, 9, 17} {
		for _, none := range [][]byte{{}, sample(9)[2:2]} {
			for _, letter := range []string{"P", "Q", "R"} {
				n := note.Note{Kind: kind, A: "x"}
				if m := with(n, letter, none); !note.Same(n, m) || !note.Same(m, n) {
					t.Errorf("kind %d: %s as nil is not %s as empty", kind, letter, letter)
				}
			}
		}
	}
}

func TestArgumentsStay(t *testing.T) { // R3: the bytes, those in a note too, and what lies behind them in the same memory
	for kind := range has {
		for _, n := range valid(kind)[:30] {
			memory := slices.Concat(n.P, []byte{1, 2}, n.Q, []byte{3, 4}, n.R, sample(40))
			before := bytes.Clone(memory)
			own := n
			atQ := len(n.P) + 2
			atR := atQ + len(n.Q) + 2
			own.P, own.Q, own.R = memory[:len(n.P)], memory[atQ:atQ+len(n.Q)], memory[atR:atR+len(n.R)]
			headers := own
			note.Right(own)
			note.Put(own)
			note.Same(own, n)
			note.Same(n, own)
			own.Kind = 17
			note.Put(own)
			note.Right(own)
			if !bytes.Equal(memory, before) || !equal(headers, n) {
				t.Fatalf("kind %d: the bytes of a note were changed", kind)
			}
			b := encoding(n)
			for _, size := range []int{0, 1, len(b) / 2, len(b) - 1, len(b)} {
				whole := append(bytes.Clone(b), sample(40)...)
				beforehand := bytes.Clone(whole)
				note.Read(whole[:size])
				if !bytes.Equal(whole, beforehand) {
					t.Fatalf("kind %d: Read changed its bytes", kind)
				}
			}
		}
	}
}

// scribble changes all the memory of bytes, and what lies behind their end.
func scribble(b []byte) {
	b = b[:cap(b)]
	for i := range b {
		b[i] ^= 0x55
	}
}

func TestPutResultIsTheCallers(t *testing.T) { // R3: not shared with the note, nor with another result
	for kind := range has {
		for _, n := range valid(kind) {
			own := copied(n)
			want := encoding(n)
			b, other := put(t, own), put(t, own)
			scribble(b)
			if !equal(own, n) || !bytes.Equal(other, want) || !bytes.Equal(put(t, n), want) {
				t.Fatalf("kind %d: a changed result changed the note, or another result", kind)
			}
			scribble(own.P)
			scribble(own.Q)
			scribble(own.R)
			if !bytes.Equal(other, want) {
				t.Fatalf("kind %d: a changed note changed a result", kind)
			}
		}
	}
}

func TestReadResultIsTheCallers(t *testing.T) { // R3: not shared with the bytes, nor with another result, nor a field with another field
	for kind := range has {
		for _, n := range valid(kind) {
			b := encoding(n)
			want := bytes.Clone(b)
			got, other := read(t, b), read(t, b)
			rest := n
			for _, letter := range []string{"P", "Q", "R"} {
				scribble(of(got, letter))
				got = with(got, letter, append(of(got, letter), 1, 2, 3))
				rest = with(rest, letter, bytes.Clone(of(got, letter)))
				if !equal(got, rest) || !bytes.Equal(of(got, letter)[len(of(n, letter)):], []byte{1, 2, 3}) {
					t.Fatalf("kind %d: %s, once changed, changed another field", kind, letter)
				}
			}
			if !bytes.Equal(b, want) || !equal(other, n) || !equal(read(t, b), n) {
				t.Fatalf("kind %d: a changed result changed the bytes, or another result", kind)
			}
			scribble(b)
			if !equal(other, n) || !equal(read(t, want), n) {
				t.Fatalf("kind %d: changed bytes changed a result", kind)
			}
		}
	}
}

func TestCallsAreApart(t *testing.T) { // R4: whatever was called before, also with errors
	for kind := range has {
		n, b := full(kind), encoding(full(kind))
		for other := range has {
			wrong := full(other)
			wrong.Kind = 17
			note.Right(wrong)
			note.Put(wrong)
			note.Put(full(other))
			note.Read(encoding(full(other)))
			note.Read(encoding(full(other))[1:])
			note.Same(n, full(other))
			takes(t, n, b)
			readRefuses(t, b[:len(b)-1])
			refuses(t, wrong)
			if !note.Same(n, read(t, b)) || note.Same(n, wrong) {
				t.Fatalf("kind %d: another answer after kind %d", kind, other)
			}
		}
	}
}

func TestSeveralGoroutines(t *testing.T) { // R5: on the same notes and bytes
	var notes []note.Note
	var all [][]byte
	for kind := range has {
		for _, n := range valid(kind)[:20] {
			notes, all = append(notes, n), append(all, encoding(n))
		}
	}
	var group sync.WaitGroup
	for i := range 8 {
		group.Go(func() {
			for k := range notes {
				n, b := notes[(k+i)%len(notes)], all[(k+i)%len(notes)]
				got, err := note.Put(n)
				back, backErr := note.Read(b)
				if err != api.OK || backErr != api.OK || !bytes.Equal(got, b) || !note.Same(back, n) || !note.Right(n) {
					t.Errorf("goroutine %d, note %d: %s", i, k, hex.EncodeToString(got))
				}
			}
		})
	}
	group.Wait()
}

func TestImports(t *testing.T) { // R6, and the map: note imports api and field alone, and calls what field's chapter lists
	allowed := map[string]bool{`"bartizan/api"`: true, `"bartizan/field"`: true}
	listed := map[string]bool{"Put": true, "Split": true, "Number": true, "Take": true, "Word": true, "Name": true}
	files, err := filepath.Glob("*.go")
	if err != nil || len(files) == 0 {
		t.Fatal("no files", err)
	}
	for _, name := range files {
		if strings.HasSuffix(name, "_test.go") {
			continue
		}
		file, err := parser.ParseFile(token.NewFileSet(), name, nil, 0)
		if err != nil {
			t.Fatal(err)
		}
		for _, i := range file.Imports {
			if p := i.Path.Value; strings.Contains(p, "bartizan") && !allowed[p] {
				t.Errorf("%s imports %s", name, p)
			}
		}
		ast.Inspect(file, func(node ast.Node) bool {
			if s, ok := node.(*ast.SelectorExpr); ok {
				if x, ok := s.X.(*ast.Ident); ok && x.Name == "field" && !listed[s.Sel.Name] {
					t.Errorf("%s calls field.%s", name, s.Sel.Name)
				}
			}
			return true
		})
	}
}
