package field_test

import (
	"bytes"
	"encoding/binary"
	"encoding/hex"
	"go/parser"
	"go/token"
	"math"
	"math/rand"
	"path/filepath"
	"slices"
	"strings"
	"sync"
	"testing"
	"unicode/utf8"

	"bartizan/api"
	"bartizan/field"
)

// sample is bytes without a pattern, the same ones in each run.
func sample(n int) []byte {
	b := make([]byte, n)
	rand.New(rand.NewSource(int64(n))).Read(b)
	return b
}

// lists is lists of fields that can be put.
func lists() [][][]byte {
	all := [][][]byte{nil, {}, {nil}, {{}}, {[]byte("ab")}, {nil, nil}, {{}, nil, {}}, make([][]byte, 19), make([][]byte, 20)}
	for _, n := range edges() {
		all = append(all, [][]byte{sample(n)}, [][]byte{make([]byte, n)}, [][]byte{bytes.Repeat([]byte{255}, n)})
		all = append(all, [][]byte{sample(n), nil}, [][]byte{nil, sample(n)}, [][]byte{sample(3), sample(n), sample(5)})
		all = append(all, slices.Repeat([][]byte{sample(n)}, 20))
	}
	mixed := rand.New(rand.NewSource(1))
	for n := range 21 {
		for range 10 {
			parts := make([][]byte, n)
			for i := range parts {
				parts[i] = sample(mixed.Intn(501))
			}
			all = append(all, parts)
		}
	}
	return all
}

// edges is lengths of fields that can be put.
func edges() []int {
	return []int{0, 1, 2, 3, 127, 128, 254, 255, 256, 257, 498, 499, api.MostBlob}
}

// encoding is the encoding of fields by the document's words, of any number and length that two bytes hold.
func encoding(parts [][]byte) []byte {
	var b bytes.Buffer
	for _, part := range parts {
		binary.Write(&b, binary.BigEndian, uint16(len(part)))
		b.Write(part)
	}
	return b.Bytes()
}

// decoded is what Split must answer, found from the back: what the first field's error is, or else what is behind it.
func decoded(b []byte, before int) ([][]byte, api.Errno) {
	if len(b) == 0 {
		return nil, api.OK
	}
	if len(b) == 1 {
		return nil, api.ErrShort
	}
	length := int(binary.BigEndian.Uint16(b))
	if length > 500 || before == 20 {
		return nil, api.ErrFull
	}
	if length > len(b)-2 {
		return nil, api.ErrShort
	}
	behind, err := decoded(b[2+length:], before+1)
	if err != api.OK {
		return nil, err
	}
	return append([][]byte{b[2 : 2+length]}, behind...), api.OK
}

func sameParts(a, b [][]byte) bool { return slices.EqualFunc(a, b, bytes.Equal) }

func cloned(parts [][]byte) [][]byte {
	all := make([][]byte, len(parts))
	for i, part := range parts {
		all[i] = bytes.Clone(part)
	}
	return all
}

// put is what Put answers where it must not refuse.
func put(t *testing.T, parts ...[]byte) []byte {
	t.Helper()
	b, err := field.Put(parts...)
	if err != api.OK {
		t.Fatalf("Put of %d fields: error %d", len(parts), err)
	}
	return b
}

// split is what Split answers where it must not refuse.
func split(t *testing.T, b []byte) [][]byte {
	t.Helper()
	parts, err := field.Split(b)
	if err != api.OK {
		t.Fatalf("Split of %d bytes: error %d", len(b), err)
	}
	return parts
}

// putRefuses: with the error there are no bytes (R1).
func putRefuses(t *testing.T, parts ...[]byte) {
	t.Helper()
	if b, err := field.Put(parts...); err != api.ErrFull || len(b) != 0 {
		t.Errorf("Put of %d fields: error %d and %d bytes", len(parts), err, len(b))
	}
}

// splitRefuses: with the error there are no fields (R1).
func splitRefuses(t *testing.T, b []byte, want api.Errno) {
	t.Helper()
	if parts, err := field.Split(b); err != want || len(parts) != 0 {
		t.Errorf("Split of %d bytes, the first %.40x: error %d and %d fields, want error %d", len(b), b, err, len(parts), want)
	}
}

func TestPutExample(t *testing.T) { // P9.1: the chapter's example
	if b := put(t, []byte("ab")); !bytes.Equal(b, []byte{0, 2, 'a', 'b'}) {
		t.Errorf("Put of ab: %v", b)
	}
}

func TestPutOfKnown(t *testing.T) { // P9.1, R2: no field, nil and empty ones, and lengths whose bytes are unlike
	for _, c := range []struct {
		parts [][]byte
		want  []byte
	}{
		{nil, nil},
		{[][]byte{}, nil},
		{[][]byte{nil}, []byte{0, 0}},
		{[][]byte{{}}, []byte{0, 0}},
		{[][]byte{sample(9)[4:4]}, []byte{0, 0}},
		{[][]byte{nil, {}, nil}, []byte{0, 0, 0, 0, 0, 0}},
		{[][]byte{{7}}, []byte{0, 1, 7}},
		{[][]byte{{0}}, []byte{0, 1, 0}},
		{[][]byte{{1}, nil, {2, 3}}, []byte{0, 1, 1, 0, 0, 0, 2, 2, 3}},
		{[][]byte{sample(255)}, append([]byte{0, 255}, sample(255)...)},
		{[][]byte{sample(256)}, append([]byte{1, 0}, sample(256)...)},
		{[][]byte{sample(257)}, append([]byte{1, 1}, sample(257)...)},
		{[][]byte{sample(500)}, append([]byte{1, 244}, sample(500)...)},
		{[][]byte{sample(500), {9}}, append(append([]byte{1, 244}, sample(500)...), 0, 1, 9)},
		{make([][]byte, 20), make([]byte, 40)},
	} {
		if b := put(t, c.parts...); !bytes.Equal(b, c.want) {
			t.Errorf("Put of %d fields: %x, want %x", len(c.parts), b, c.want)
		}
		if parts := split(t, c.want); !sameParts(parts, c.parts) {
			t.Errorf("Split of %x: %x", c.want, parts)
		}
	}
	if b := put(t); len(b) != 0 {
		t.Errorf("Put of nothing: %x", b)
	}
}

func TestPutAndSplit(t *testing.T) { // P9.1, P9.3, P2: each encoding by the document's words, and back, one by one
	for _, parts := range lists() {
		b := put(t, parts...)
		if want := encoding(parts); !bytes.Equal(b, want) {
			t.Fatalf("Put of %d fields: %x, want %x", len(parts), b, want)
		}
		back := split(t, b)
		if len(back) != len(parts) {
			t.Fatalf("%d fields: back as %d", len(parts), len(back))
		}
		for i := range parts {
			if !bytes.Equal(back[i], parts[i]) {
				t.Fatalf("field %d of %d: back as %x, want %x", i, len(parts), back[i], parts[i])
			}
		}
		if again := put(t, back...); !bytes.Equal(again, b) {
			t.Fatalf("%x: put again as %x", b, again)
		}
	}
}

func TestPutOfAllLengths(t *testing.T) { // P9.1, P9.3: every field that is taken, alone and in front of another
	for n := range api.MostBlob + 1 {
		for _, parts := range [][][]byte{{sample(n)}, {sample(n), {1, 2, 3}}} {
			b := put(t, parts...)
			if back := split(t, b); !bytes.Equal(b, encoding(parts)) || !sameParts(back, parts) {
				t.Errorf("%d bytes: %x, back as %x", n, b, back)
			}
		}
	}
}

func TestPutOfTooMany(t *testing.T) { // P9.1, R1: empty fields count, too
	for _, n := range []int{21, 22, 40, 255, 256, 257, 276, 1 << 16, 1<<16 + 20} {
		putRefuses(t, make([][]byte, n)...)
		putRefuses(t, slices.Repeat([][]byte{{}}, n)...)
		putRefuses(t, slices.Repeat([][]byte{{1, 2}}, n)...)
		putRefuses(t, slices.Repeat([][]byte{sample(500)}, n)...)
		putRefuses(t, slices.Repeat([][]byte{sample(501)}, n)...)
	}
}

func TestPutOfTooLong(t *testing.T) { // P9.1, R1: wherever the field stands
	for _, n := range []int{501, 502, 511, 512, 756, 1 << 16, 1<<16 + 1, 1<<16 + 500, 1 << 20} {
		for _, count := range []int{1, 2, 3, 19, 20} {
			for at := range count {
				parts := slices.Repeat([][]byte{{1, 2}}, count)
				parts[at] = make([]byte, n)
				putRefuses(t, parts...)
			}
		}
	}
	putRefuses(t, slices.Repeat([][]byte{sample(501)}, 20)...)
	most := slices.Repeat([][]byte{sample(500)}, 20)
	most[19] = sample(501)
	putRefuses(t, most...)
}

func TestSplitOfNothing(t *testing.T) { // P9.1, R2
	for i, b := range [][]byte{nil, {}, sample(9)[3:3]} {
		if parts := split(t, b); len(parts) != 0 {
			t.Errorf("bytes %d: %x", i, parts)
		}
	}
}

func TestSplitOfOneByte(t *testing.T) { // P9.1: alone, and behind whole fields, 20 of them too: there it is not ErrFull
	for c := range 256 {
		splitRefuses(t, []byte{byte(c)}, api.ErrShort)
	}
	for _, parts := range lists() {
		for _, c := range []byte{0, 1, 2, 255} {
			splitRefuses(t, append(encoding(parts), c), api.ErrShort)
		}
	}
}

func TestSplitOfGreatLengths(t *testing.T) { // P9.1: whether or not so many bytes follow, and behind whole fields
	for _, length := range []int{501, 502, 511, 512, 513, 756, 767, 768, 0x1f5, 0x2f4, 0xff00, 0xf401, 0xfff4, 0xffff} {
		head := []byte{byte(length >> 8), byte(length)}
		for _, more := range []int{0, 1, 499, 500, 501, length - 1, length, length + 1, length + 2} {
			b := append(bytes.Clone(head), make([]byte, more)...)
			splitRefuses(t, b, api.ErrFull)
			splitRefuses(t, append(encoding([][]byte{nil, sample(7)}), b...), api.ErrFull)
			splitRefuses(t, append(make([]byte, 38), b...), api.ErrFull)
		}
	}
	for length := 501; length < 1<<16; length++ {
		splitRefuses(t, []byte{byte(length >> 8), byte(length)}, api.ErrFull)
	}
}

func TestSplitOfTooMany(t *testing.T) { // P9.1: behind 20 fields a length of any kind, whatever follows it
	for _, parts := range [][][]byte{make([][]byte, 20), slices.Repeat([][]byte{{1}}, 20), slices.Repeat([][]byte{sample(500)}, 20)} {
		front := encoding(parts)
		for _, behind := range [][]byte{{0, 0}, {0, 1}, {0, 1, 7}, {0, 2, 7}, {0, 2, 7, 8}, {1, 244}, {1, 245}, {255, 255}, {0, 0, 9}, {0, 0, 0, 0}, append([]byte{1, 244}, sample(500)...)} {
			splitRefuses(t, append(bytes.Clone(front), behind...), api.ErrFull)
		}
		for n := 21; n < 60; n++ {
			splitRefuses(t, append(bytes.Clone(front), make([]byte, 2*(n-20))...), api.ErrFull)
		}
	}
}

func TestSplitOfFewBytes(t *testing.T) { // P9.1: fewer bytes than the length says, in the first field or behind others
	for _, length := range edges()[1:] {
		for _, more := range []int{0, 1, 2, length / 2, length - 2, length - 1} {
			if more < 0 || more >= length {
				continue
			}
			b := append([]byte{byte(length >> 8), byte(length)}, make([]byte, more)...)
			splitRefuses(t, b, api.ErrShort)
			splitRefuses(t, append(encoding([][]byte{sample(7)}), b...), api.ErrShort)
			splitRefuses(t, append(make([]byte, 38), b...), api.ErrShort)
		}
	}
}

func TestSplitOfCut(t *testing.T) { // P9.1: an encoding that ends too early ends in whole fields or is ErrShort
	parts := [][]byte{[]byte("ab"), nil, sample(300), {1}, {}, sample(3)}
	b := encoding(parts)
	for n := range b {
		whole := slices.IndexFunc([]int{0, 1, 2, 3, 4, 5}, func(k int) bool { return len(encoding(parts[:k])) == n })
		if whole < 0 {
			splitRefuses(t, b[:n], api.ErrShort)
		} else if back := split(t, b[:n]); !sameParts(back, parts[:whole]) {
			t.Errorf("%d bytes: %x", n, back)
		}
	}
}

func TestSplitFirstError(t *testing.T) { // P9.1, P0: of several errors the first one on the way
	splitRefuses(t, []byte{0, 5, 1, 245}, api.ErrShort)                        // the great length is within a field that is cut
	splitRefuses(t, []byte{1, 245, 0, 5}, api.ErrFull)                         // behind the great length there is one that is cut
	splitRefuses(t, []byte{0, 1, 7, 1, 245, 0}, api.ErrFull)                   // behind the great length there is one byte
	splitRefuses(t, []byte{1, 245, 9}, api.ErrFull)                            // also fewer bytes than it says
	splitRefuses(t, append([]byte{1, 245}, make([]byte, 501)...), api.ErrFull) // as many bytes as it says
	splitRefuses(t, append(make([]byte, 40), 0, 9, 9), api.ErrFull)            // too many fields, the last one cut
	splitRefuses(t, append(make([]byte, 38), 0, 9, 9), api.ErrShort)           // the twentieth one cut
	splitRefuses(t, append(make([]byte, 38), 0, 2, 0, 0, 0), api.ErrShort)     // behind the twentieth one there is one byte
	splitRefuses(t, append([]byte{0, 200}, make([]byte, 60)...), api.ErrShort) // what were too many fields is within one that is cut
	splitRefuses(t, append(make([]byte, 42), 1, 245), api.ErrFull)             // both are ErrFull
	splitRefuses(t, append([]byte{0, 1, 1}, 255, 255, 255), api.ErrFull)       // a great length and few bytes
	splitRefuses(t, append([]byte{0, 1, 1}, 1, 244, 255), api.ErrShort)        // a length of MostBlob and few bytes
	splitRefuses(t, append(make([]byte, 40), 255, 255, 255), api.ErrFull)      // all of them at once
}

func TestSplitOfAll(t *testing.T) { // P9.1, P9.3, P2: all short bytes out of a few, and long ones without a pattern; no two have the same fields
	seen := map[string]string{}
	check := func(b []byte) {
		want, wantErr := decoded(b, 0)
		got, err := field.Split(b)
		if err != wantErr || !sameParts(got, want) {
			t.Fatalf("Split of %x: error %d and %x, want error %d and %x", b, err, got, wantErr, want)
		}
		if err != api.OK {
			return
		}
		if again := put(t, got...); !bytes.Equal(again, b) {
			t.Fatalf("%x: put again as %x", b, again)
		}
		key := strings.Join(quoted(got), ",")
		if other, ok := seen[key]; ok && other != string(b) {
			t.Fatalf("%x: its fields are those of %x", b, other)
		}
		seen[key] = string(b)
	}
	from := []byte{0, 1, 2, 3, 244, 255}
	for n := range 7 {
		b, place := make([]byte, n), make([]int, n)
		for more := true; more; more = next(place, len(from)) {
			for i, k := range place {
				b[i] = from[k]
			}
			check(b)
		}
	}
	random := rand.New(rand.NewSource(2))
	for range 20000 {
		parts := make([][]byte, random.Intn(24))
		for i := range parts {
			parts[i] = sample(random.Intn(12))
		}
		b := encoding(parts)
		for range random.Intn(3) {
			if len(b) > 0 {
				b[random.Intn(len(b))] = byte(random.Intn(3))
			}
		}
		check(b[:len(b)-min(len(b), random.Intn(3))])
	}
}

// quoted is each part as a text of hexadecimal digits.
func quoted(parts [][]byte) []string {
	all := []string{"fields"}
	for _, part := range parts {
		all = append(all, hex.EncodeToString(part))
	}
	return all
}

// next counts place on, each digit below base, until it is back at its beginning.
func next(place []int, base int) bool {
	for i := range place {
		if place[i]++; place[i] < base {
			return true
		}
		place[i] = 0
	}
	return false
}

func TestNumber(t *testing.T) { // P9.2, P9.3: known ones, and back
	for _, c := range []struct {
		n    int64
		want []byte
	}{
		{0, []byte{0, 0, 0, 0, 0, 0, 0, 0}},
		{1, []byte{0, 0, 0, 0, 0, 0, 0, 1}},
		{-1, []byte{255, 255, 255, 255, 255, 255, 255, 255}},
		{-2, []byte{255, 255, 255, 255, 255, 255, 255, 254}},
		{127, []byte{0, 0, 0, 0, 0, 0, 0, 127}},
		{128, []byte{0, 0, 0, 0, 0, 0, 0, 128}},
		{-128, []byte{255, 255, 255, 255, 255, 255, 255, 128}},
		{255, []byte{0, 0, 0, 0, 0, 0, 0, 255}},
		{256, []byte{0, 0, 0, 0, 0, 0, 1, 0}},
		{-256, []byte{255, 255, 255, 255, 255, 255, 255, 0}},
		{1 << 31, []byte{0, 0, 0, 0, 128, 0, 0, 0}},
		{1 << 32, []byte{0, 0, 0, 1, 0, 0, 0, 0}},
		{api.Far, []byte{16, 0, 0, 0, 0, 0, 0, 0}},
		{-api.Far, []byte{240, 0, 0, 0, 0, 0, 0, 0}},
		{0x0102030405060708, []byte{1, 2, 3, 4, 5, 6, 7, 8}},
		{math.MaxInt64, []byte{127, 255, 255, 255, 255, 255, 255, 255}},
		{math.MinInt64, []byte{128, 0, 0, 0, 0, 0, 0, 0}},
	} {
		if b := field.Number(c.n); !bytes.Equal(b, c.want) {
			t.Errorf("Number of %d: %v, want %v", c.n, b, c.want)
		}
		if n, err := field.Take(c.want); err != api.OK || n != c.n {
			t.Errorf("Take of %v: %d and error %d, want %d", c.want, n, err, c.n)
		}
	}
}

func TestNumberOfAll(t *testing.T) { // P9.2, P9.3, P2: each bit, and those without a pattern, both ways
	random := rand.New(rand.NewSource(3))
	all := make([]uint64, 0, 6000)
	for i := range 64 {
		all = append(all, 1<<i, 1<<i-1, ^(uint64(1) << i), -(uint64(1) << i))
	}
	for range 5000 {
		all = append(all, random.Uint64()>>random.Intn(64))
	}
	for _, u := range all {
		want := binary.BigEndian.AppendUint64(nil, u)
		if b := field.Number(int64(u)); !bytes.Equal(b, want) {
			t.Errorf("Number of %d: %x, want %x", int64(u), b, want)
		}
		if n, err := field.Take(want); err != api.OK || n != int64(u) {
			t.Errorf("Take of %x: %d and error %d", want, n, err)
		}
	}
}

func TestTakeOfWrong(t *testing.T) { // P9.2, R1, R2: any other number of bytes is ErrForm, and no number
	wrong := [][]byte{nil, {}, make([]byte, 1<<16+8), make([]byte, 256+8)}
	for n := range 40 {
		if n != 8 {
			wrong = append(wrong, bytes.Repeat([]byte{1}, n), make([]byte, n), sample(n))
		}
	}
	for _, b := range wrong {
		if n, err := field.Take(b); err != api.ErrForm || n != 0 {
			t.Errorf("Take of %d bytes: %d and error %d", len(b), n, err)
		}
	}
}

func TestWord(t *testing.T) { // P9.2: the same bytes in the same places
	for _, b := range [][]byte{make([]byte, 16), bytes.Repeat([]byte{255}, 16), []byte("0123456789abcdef"), sample(16), sample(48)[16:32]} {
		w, err := field.Word(b)
		if err != api.OK || !bytes.Equal(w[:], b) {
			t.Errorf("Word of %x: %x and error %d", b, w, err)
		}
	}
	for i := range 16 {
		b := make([]byte, 16)
		b[i] = 1
		var want api.Word
		want[i] = 1
		if w, err := field.Word(b); err != api.OK || w != want {
			t.Errorf("Word of %x: %x and error %d", b, w, err)
		}
	}
}

func TestWordOfWrong(t *testing.T) { // P9.2, R1, R2: any other number of bytes is ErrForm, and the zero word
	wrong := [][]byte{nil, {}, make([]byte, 1<<16+16), make([]byte, 256+16)}
	for n := range 70 {
		if n != 16 {
			wrong = append(wrong, bytes.Repeat([]byte{1}, n), make([]byte, n), sample(n))
		}
	}
	for _, b := range wrong {
		if w, err := field.Word(b); err != api.ErrForm || w != (api.Word{}) {
			t.Errorf("Word of %d bytes: %x and error %d", len(b), w, err)
		}
	}
}

func TestName(t *testing.T) { // P9.2: of 1 to 20 letters and digits
	const letters = "abcdefghijklmnopqrstuvwxyz"
	for _, s := range []string{
		"a", "b", "y", "z", "0", "1", "8", "9", "kdc", "alice", "bob2", "0day", "007", "a0z9", letters[:20], letters[6:], "01234567890123456789",
		strings.Repeat("a", 20), strings.Repeat("9", 20), strings.Repeat("z", 19),
	} {
		if !field.Name(s) {
			t.Errorf("%q is not a name", s)
		}
	}
	for _, s := range []string{
		"", strings.Repeat("a", 21), strings.Repeat("0", 21), letters, strings.Repeat("a", 256), strings.Repeat("a", 256+20), strings.Repeat("a", 1<<16+1),
		"A", "Z", "Alice", "aliCe", "alicE", " ", " a", "a ", "a b", "a-b", "a_b", "a.b", "a\n", "\na", "\x00", "a\x00", "\x00a", "bob\x00",
		"é", "ä", "ß", "aé", "éa", "²", "٣", "ａ", "０", "水", "\xff", "a\xff", "\x80", "\xe1", "\xb0", "\xfa", strings.Repeat("A", 20), strings.Repeat("é", 10), strings.Repeat("a", 19) + "é",
		strings.Repeat("a", 20) + "\x00", strings.Repeat("a", 19) + "A", "A" + strings.Repeat("a", 19),
	} {
		if field.Name(s) {
			t.Errorf("%q is a name", s)
		}
	}
}

func TestNameOfAllBytes(t *testing.T) { // P9.2: each byte alone, and at each place of each length; those beside a, z, 0 and 9 are not of a name
	for c := range 256 {
		want := strings.IndexByte("abcdefghijklmnopqrstuvwxyz0123456789", byte(c)) >= 0
		for n := 1; n <= 22; n++ {
			for at := range n {
				b := bytes.Repeat([]byte{'k'}, n)
				b[at] = byte(c)
				if field.Name(string(b)) != (want && n <= 20) {
					t.Errorf("%q: name %t", b, !want)
				}
			}
		}
	}
}

func TestNameOfAllRunes(t *testing.T) { // P9.2: no rune beyond the letters and digits, be it a letter or a digit elsewhere
	for r := rune(128); r <= utf8.MaxRune; r++ {
		if field.Name(string(r)) {
			t.Errorf("%q is a name", r)
		}
	}
}

func TestArgumentsStay(t *testing.T) { // R3: the fields, the list, the bytes, and what lies behind them in the same memory
	for _, n := range []int{0, 1, 8, 16, 17, 500, 501} {
		memory, before := sample(3*n+60), sample(3*n+60)
		list := [][]byte{memory[:n], memory[n : 2*n], nil, memory[2*n : 3*n], memory[5:6], memory[6:7]}
		headers := slices.Clone(list)
		field.Put(list[:4]...)
		field.Put(list[:4:4]...)
		field.Put(slices.Repeat(list[:4], 6)...)
		if !bytes.Equal(memory, before) || !sameMemory(list, headers) {
			t.Errorf("Put of fields of %d bytes changed its arguments", n)
		}
		encoded := encoding(list[:4])
		for _, b := range [][]byte{memory[4 : 4+n], encoded, encoded[:len(encoded)/2], append(encoded, 1)} {
			whole := append(bytes.Clone(b), sample(50)...)
			beforehand := bytes.Clone(whole)
			field.Split(whole[:len(b)])
			field.Take(whole[:len(b)])
			field.Word(whole[:len(b)])
			if !bytes.Equal(whole, beforehand) {
				t.Errorf("%d bytes were changed", len(b))
			}
		}
	}
}

// sameMemory tells whether two lists have the same lengths and places of fields.
func sameMemory(a, b [][]byte) bool {
	return slices.EqualFunc(a, b, func(x, y []byte) bool {
		return len(x) == len(y) && cap(x) == cap(y) && (cap(x) == 0 || &x[:1][0] == &y[:1][0])
	})
}

func TestPutResultIsTheCallers(t *testing.T) { // R3: not shared with an argument, nor with another result
	for _, parts := range lists() {
		own := cloned(parts)
		want := encoding(parts)
		b, other := put(t, own...), put(t, own...)
		clear(b[:cap(b)])
		if !sameParts(own, parts) || !bytes.Equal(other, want) {
			t.Fatalf("%d fields: a changed result changed an argument, or another result", len(parts))
		}
		for i := range own {
			clear(own[i])
			own[i] = nil
		}
		if !bytes.Equal(other, want) || !bytes.Equal(put(t, parts...), want) {
			t.Fatalf("%d fields: a changed argument changed a result", len(parts))
		}
	}
}

func TestSplitResultIsTheCallers(t *testing.T) { // R3: not shared with the argument, nor with another result, nor a field with another field
	for _, parts := range lists() {
		b := encoding(parts)
		want := bytes.Clone(b)
		fields, other := split(t, b), split(t, b)
		for i := range fields {
			whole := fields[i][:cap(fields[i])]
			for k := range whole {
				whole[k] ^= 0x55
			}
			if !sameParts(fields[i+1:], parts[i+1:]) {
				t.Fatalf("field %d of %d: once changed, it changed another one", i, len(parts))
			}
			fields[i] = append(fields[i], 1, 2, 3)
		}
		for i := range fields {
			if n := len(parts[i]); len(fields[i]) != n+3 || !bytes.Equal(fields[i][n:], []byte{1, 2, 3}) {
				t.Fatalf("field %d of %d: changed by another one", i, len(parts))
			}
		}
		clear(fields[:cap(fields)])
		if !bytes.Equal(b, want) || !sameParts(other, parts) {
			t.Fatalf("%d fields: a changed result changed the argument, or another result", len(parts))
		}
		clear(b)
		if !sameParts(other, parts) || !sameParts(split(t, want), parts) {
			t.Fatalf("%d fields: a changed argument changed a result", len(parts))
		}
	}
}

func TestNumberResultIsTheCallers(t *testing.T) { // R3: not shared with another result
	for _, n := range []int64{0, 1, -1, math.MinInt64, 0x0102030405060708} {
		b, other := field.Number(n), field.Number(n)
		want := bytes.Clone(other)
		for i := range b[:cap(b)] {
			b[:cap(b)][i] ^= 0x55
		}
		if !bytes.Equal(other, want) || !bytes.Equal(field.Number(n), want) {
			t.Errorf("Number of %d: a changed result changed another one", n)
		}
	}
	b := sample(16)
	w, _ := field.Word(b)
	clear(b)
	if !bytes.Equal(w[:], sample(16)) {
		t.Error("a word changed with its argument")
	}
}

func TestCallsAreApart(t *testing.T) { // R4: whatever was called before, also with errors
	all := lists()[:60]
	for i, parts := range all {
		want := encoding(parts)
		for _, other := range all {
			field.Put(other...)
			field.Put(make([][]byte, 21)...)
			field.Put(append(slices.Clone(other), make([]byte, 501))...)
			field.Split(encoding(other))
			field.Split(append(encoding(other), 9))
			field.Number(int64(len(other)))
			field.Take(want)
			field.Word(want)
			field.Name("alice")
			if !bytes.Equal(put(t, parts...), want) || !sameParts(split(t, want), parts) {
				t.Fatalf("list %d: another answer", i)
			}
			n, err := field.Take(field.Number(int64(i)))
			w, wordErr := field.Word(sample(16))
			if n != int64(i) || err != api.OK || w != api.Word(sample(16)) || wordErr != api.OK || !field.Name("bob") || field.Name("Bob") {
				t.Fatalf("number %d: another answer", i)
			}
		}
	}
}

func TestSeveralGoroutines(t *testing.T) { // R5: on the same fields and bytes
	all := lists()
	var group sync.WaitGroup
	for i := range 8 {
		group.Go(func() {
			for k := range all {
				parts := all[(k+i)%len(all)]
				b, err := field.Put(parts...)
				back, backErr := field.Split(b)
				if err != api.OK || backErr != api.OK || !sameParts(back, parts) {
					t.Errorf("goroutine %d, list %d", i, k)
				}
				n, err := field.Take(field.Number(int64(k)))
				if n != int64(k) || err != api.OK || !field.Name("kdc") {
					t.Errorf("goroutine %d, number %d", i, k)
				}
			}
		})
	}
	group.Wait()
}

func TestImports(t *testing.T) { // R6, and the map: field imports api alone
	files, err := filepath.Glob("*.go")
	if err != nil || len(files) == 0 {
		t.Fatal("no files", err)
	}
	for _, name := range files {
		if strings.HasSuffix(name, "_test.go") {
			continue
		}
		file, err := parser.ParseFile(token.NewFileSet(), name, nil, parser.ImportsOnly)
		if err != nil {
			t.Fatal(err)
		}
		for _, i := range file.Imports {
			if p := i.Path.Value; strings.Contains(p, "bartizan") && p != `"bartizan/api"` {
				t.Errorf("%s imports %s", name, p)
			}
		}
	}
}
