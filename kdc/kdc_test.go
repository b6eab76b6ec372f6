package kdc_test

import (
	"bytes"
	"crypto/aes"
	"crypto/cipher"
	"crypto/hkdf"
	"crypto/hmac"
	"crypto/sha256"
	"encoding/binary"
	"encoding/hex"
	"math"
	"math/rand"
	"slices"
	"strings"
	"testing"

	"bartizan/api"
	"bartizan/field"
	"bartizan/kdc"
	"bartizan/seal"
)

const longest = "forty bytes are as long as a label gets."

const knownBytes = "f0f1f2f3f4f5f6f7f8f9fafbfcfdfeff" + "8df7b835" + "0b977203af5db4b6dc17695c01adebef285e575e2d6081365a474bac813dbf65"

// word is a word that is unlike for every number.
func word(n int) (w api.Word) {
	binary.BigEndian.PutUint64(w[4:], uint64(n))
	w[0], w[15] = byte(n/7), byte(n)
	return w
}

// filled is a word of one byte.
func filled(c byte) api.Word { return api.Word(bytes.Repeat([]byte{c}, 16)) }

func text(w api.Word) string { return string(w[:]) }

func number(n int64) string { return string(binary.BigEndian.AppendUint64(nil, uint64(n))) }

// sample is bytes without a pattern, the same ones in each run.
func sample(n int) []byte {
	b := make([]byte, n)
	rand.New(rand.NewSource(int64(n))).Read(b)
	return b
}

// encoded is the encoding of fields, as the document's words have it, of any number and of any lengths.
func encoded(texts ...string) string {
	var all strings.Builder
	for _, text := range texts {
		all.WriteString(string([]byte{byte(len(text) / 256), byte(len(text) % 256)}) + text)
	}
	return all.String()
}

// split is the fields whose encoding a text is.
func split(plain string) ([]string, bool) {
	var texts []string
	for plain != "" {
		if len(plain) < 2 {
			return nil, false
		}
		end := 2 + 256*int(plain[0]) + int(plain[1])
		if end > 502 || end > len(plain) || len(texts) == 20 {
			return nil, false
		}
		texts = append(texts, plain[2:end])
		plain = plain[end:]
	}
	return texts, true
}

// box is the two keys of a key and a label, by the library's HKDF: AES, and the key of the code.
func box(key api.Word, label string) (cipher.Block, []byte) {
	keys, err := hkdf.Expand(sha256.New, key[:], "bartizan "+label, 48)
	if err != nil {
		panic(err)
	}
	block, err := aes.NewCipher(keys[:16])
	if err != nil {
		panic(err)
	}
	return block, keys[16:]
}

func code(key []byte, b string) string {
	h := hmac.New(sha256.New, key)
	h.Write([]byte(b))
	return string(h.Sum(nil))
}

// locked is the sealed form by the library's AES, counter mode and HMAC, of any plaintext and for any label.
func locked(key api.Word, label string, first api.Word, plain string) string {
	block, authentication := box(key, label)
	b := []byte(plain)
	cipher.NewCTR(block, first[:]).XORKeyStream(b, b)
	front := text(first) + string(b)
	return front + code(authentication, front)
}

// unlocked is the plaintext of a sealed form, or the error of opening it, as the document's words have it.
func unlocked(key api.Word, label, b string) (string, api.Errno) {
	switch {
	case label == "" || len(label) > 40:
		return "", api.ErrArg
	case len(b) < 48:
		return "", api.ErrShort
	case len(b) > 1048:
		return "", api.ErrFull
	}
	block, authentication := box(key, label)
	front := b[:len(b)-32]
	if code(authentication, front) != b[len(b)-32:] {
		return "", api.ErrSeal
	}
	plain := []byte(front[16:])
	cipher.NewCTR(block, []byte(front[:16])).XORKeyStream(plain, plain)
	return string(plain), api.OK
}

// sealedAs is the sealed fields, as the document's words have it.
func sealedAs(key api.Word, label string, first api.Word, texts ...string) string {
	all := encoded(texts...)
	tooLong := slices.ContainsFunc(texts, func(text string) bool { return len(text) > 500 })
	if len(texts) > 20 || tooLong || label == "" || len(label) > 40 || len(all) > 1000 {
		return ""
	}
	return locked(key, label, first, all)
}

// partsAs is sealed bytes opened as a number of fields, as the document's words have it.
func partsAs(key api.Word, label, b string, many int) ([]string, api.Errno) {
	plain, err := unlocked(key, label, b)
	if err != api.OK {
		return nil, err
	}
	texts, ok := split(plain)
	if !ok || len(texts) != many {
		return nil, api.ErrForm
	}
	return texts, api.OK
}

func partsOf(texts []string) [][]byte {
	var parts [][]byte
	for _, text := range texts {
		parts = append(parts, []byte(text))
	}
	return parts
}

func textsOf(parts [][]byte) []string {
	var texts []string
	for _, part := range parts {
		texts = append(texts, string(part))
	}
	return texts
}

// seals: Sealed answers as the document's words have it; what it returned is handed back.
func seals(t *testing.T, key api.Word, label string, first api.Word, texts ...string) []byte {
	t.Helper()
	want := sealedAs(key, label, first, texts...)
	got := kdc.Sealed(key, label, first, partsOf(texts)...)
	if string(got) != want {
		t.Errorf("Sealed of %d parts for %.50q: %d bytes, %.20x.., want %d, %.20x..", len(texts), label, len(got), got, len(want), want)
	}
	return got
}

// opens: Parts answers as the document's words have it; its error is handed back.
func opens(t *testing.T, key api.Word, label string, b string, many int) api.Errno {
	t.Helper()
	want, wantErr := partsAs(key, label, b, many)
	got, err := kdc.Parts(key, label, []byte(b), many)
	if err != wantErr || !slices.Equal(textsOf(got), want) {
		t.Errorf("Parts of %d bytes for %.50q as %d: error %d and %d fields, want %d and %d", len(b), label, many, err, len(got), wantErr, len(want))
	}
	return wantErr
}

// errs: Parts answers an error, and no fields (R1).
func errs(t *testing.T, what string, key api.Word, label string, b string, many int, want api.Errno) {
	t.Helper()
	if got, err := kdc.Parts(key, label, []byte(b), many); err != want || len(got) != 0 {
		t.Errorf("%s: error %d and %d fields, want error %d", what, err, len(got), want)
	}
}

// otherMany is numbers of fields beside the right one, and those that a narrower type would make the right one of.
func otherMany(right int) []int {
	return []int{right + 1, right - 1, -right - 1, -1 - right, right + 256, right + 1<<32, right - 1<<32, -1, math.MaxInt, math.MinInt, math.MaxInt32, math.MinInt32, 1000, 1 << 40}
}

// otherLabels is labels that are not valid.
func otherLabels() []string {
	return []string{"", longest + "a", strings.Repeat("a", 256+3), strings.Repeat("é", 21), strings.Repeat("\x00", 41)}
}

// lists is lists of parts that are sealed: of none, one, three and 20, with as long ones as there may be.
func lists() [][]string {
	var twenty []string
	for i := range 20 {
		twenty = append(twenty, strings.Repeat("t", i))
	}
	b := string(sample(500))
	return [][]string{
		nil, {""}, {"a"}, {"ab", "", "cdef"}, {"", "", ""}, twenty, slices.Repeat([]string{""}, 20), {b}, {b[:499]}, {b, "x"},
		{b, b[:496]}, {"", b, b[:494]}, slices.Repeat([]string{b[:48]}, 20), slices.Repeat([]string{b[:40]}, 19),
		{text(word(3)), "ann", text(word(4))}, {"bob", text(word(5)), text(word(6)), number(-1)}, {"\x00", "\xff\xff", "\x00\x01a"},
	}
}

func TestName(t *testing.T) {
	if kdc.Name != "kdc" {
		t.Errorf("%q", kdc.Name)
	}
}

func TestKnownBytes(t *testing.T) { // P16.1: the field ab alone: the plaintext 0, 2 and these two bytes, by openssl (its HKDF, AES-128-CTR and HMAC)
	key, _ := hex.DecodeString("000102030405060708090a0b0c0d0e0f")
	first, _ := hex.DecodeString("f0f1f2f3f4f5f6f7f8f9fafbfcfdfeff")
	got := kdc.Sealed(api.Word(key), "ns2", api.Word(first), []byte("ab"))
	if hex.EncodeToString(got) != knownBytes {
		t.Errorf("%x", got)
	}
	b, _ := hex.DecodeString(knownBytes)
	parts, err := kdc.Parts(api.Word(key), "ns2", b, 1)
	if err != api.OK || len(parts) != 1 || string(parts[0]) != "ab" {
		t.Errorf("error %d and %q", err, parts)
	}
}

func TestSealed(t *testing.T) { // P16.1: what is sealed, with keys, labels and counters of all kinds; and that it opens
	for i, texts := range lists() {
		for j, label := range []string{"ns2", "nst", "k", " ", "\x00", "\xff\xfe", longest, longest[1:], strings.Repeat("é", 20)} {
			for _, words := range [][2]api.Word{{}, {word(i), word(j)}, {filled(255), filled(255)}, {word(100 * j), {15: 255}}} {
				b := seals(t, words[0], label, words[1], texts...)
				if len(b) < 48 {
					t.Fatalf("list %d for %q: %d bytes", i, label, len(b))
				}
				if err := opens(t, words[0], label, string(b), len(texts)); err != api.OK {
					t.Errorf("list %d for %q: error %d", i, label, err)
				}
			}
		}
	}
}

func TestSealedIsSealOfPut(t *testing.T) { // P16.1: by the packages below it
	for i, texts := range lists() {
		plain, err := field.Put(partsOf(texts)...)
		if err != api.OK {
			t.Fatal(err)
		}
		want, err := seal.Seal(word(i), "ns3", word(i+1), plain)
		if got := kdc.Sealed(word(i), "ns3", word(i+1), partsOf(texts)...); err != api.OK || !bytes.Equal(got, want) {
			t.Errorf("list %d: error %d and %x, want %x", i, err, got, want)
		}
	}
}

func TestSealedOfManyFields(t *testing.T) { // P16.1: field.Put's error for more than 20 parts
	for _, many := range []int{0, 1, 2, 3, 19, 20, 21, 22, 40, 256, 257, 276, 1000} {
		for _, text := range []string{"", "a", "abc"} {
			b := seals(t, word(1), "ns2", word(2), slices.Repeat([]string{text}, many)...)
			if (len(b) == 0) != (many > 20) {
				t.Errorf("%d parts: %d bytes", many, len(b))
			}
		}
	}
}

func TestSealedOfLongFields(t *testing.T) { // P16.1: field.Put's error for a part of more than 500 bytes, wherever it is
	for _, length := range []int{0, 1, 255, 256, 257, 499, 500, 501, 502, 756, 1000, 1001, 65536, 65539} {
		for many := 1; many <= 4; many++ {
			for at := range many {
				texts := make([]string, many)
				texts[at] = string(sample(length))
				b := seals(t, word(1), "ns2", word(2), texts...)
				if (len(b) == 0) != (length > 500) {
					t.Errorf("a part of %d bytes, as %d of %d: %d bytes", length, at, many, len(b))
				}
			}
		}
	}
}

func TestSealedOfMuch(t *testing.T) { // P16.1: seal.Seal's error for an encoding of more than 1000 bytes
	for length := 940; length <= 1060; length++ {
		rest := length - 504
		for _, texts := range [][]string{{string(sample(500)), string(sample(min(rest, 500)))}, {string(sample(500)), string(sample(rest - 102)), string(sample(100))}} {
			all := len(encoded(texts...))
			b := seals(t, word(1), "ns2", word(2), texts...)
			if (len(b) == 0) != (all > 1000) {
				t.Errorf("%d bytes of fields: %d bytes", all, len(b))
			}
		}
	}
	for _, each := range []int{47, 48, 49, 50, 500} {
		seals(t, word(1), "ns2", word(2), slices.Repeat([]string{string(sample(each))}, 20)...)
	}
}

func TestSealedForWrongLabels(t *testing.T) { // P16.1: seal.Seal's error for a label that is not valid
	for _, label := range otherLabels() {
		for i, texts := range append(lists(), slices.Repeat([]string{"a"}, 21), []string{string(sample(501))}) {
			if b := seals(t, word(1), label, word(2), texts...); len(b) != 0 {
				t.Errorf("list %d for a label of %d bytes: %d bytes", i, len(label), len(b))
			}
		}
	}
}

func TestNilParts(t *testing.T) { // R2: nil parts are as empty ones, and no list is as an empty one
	want := kdc.Sealed(word(1), "ns2", word(2), []byte{}, []byte("a"), []byte{})
	if got := kdc.Sealed(word(1), "ns2", word(2), nil, []byte("a"), nil); !bytes.Equal(got, want) || len(want) == 0 {
		t.Errorf("%x, want %x", got, want)
	}
	want = kdc.Sealed(word(1), "ns2", word(2))
	for i, parts := range [][][]byte{nil, {}, make([][]byte, 0, 5)} {
		if got := kdc.Sealed(word(1), "ns2", word(2), parts...); !bytes.Equal(got, want) || len(want) != 48 {
			t.Errorf("list %d: %x, want %x", i, got, want)
		}
	}
	for _, b := range [][]byte{nil, {}} {
		if parts, err := kdc.Parts(word(1), "ns2", b, 0); err != api.ErrShort || len(parts) != 0 {
			t.Errorf("no bytes: error %d and %d fields", err, len(parts))
		}
	}
}

func TestPartsOfOtherNumbers(t *testing.T) { // P16.1: one field more or less, none, negative and great numbers
	for i, texts := range lists() {
		b := sealedAs(word(i), "k3a", word(9), texts...)
		for many := -30; many <= 30; many++ {
			if err := opens(t, word(i), "k3a", b, many); (err == api.OK) != (many == len(texts)) {
				t.Errorf("list %d as %d: error %d", i, many, err)
			}
		}
		for _, many := range otherMany(len(texts)) {
			errs(t, "another number", word(i), "k3a", b, many, api.ErrForm)
		}
	}
}

func TestPartsByOtherKeys(t *testing.T) { // P16.1: each bit of the key, and other labels: ErrSeal, whatever the number of fields
	for i, texts := range lists() {
		b := sealedAs(word(i), "k3b", word(9), texts...)
		for _, many := range []int{len(texts), len(texts) + 1, 0, -1, math.MinInt} {
			for bit := range 128 {
				other := word(i)
				other[bit/8] ^= 1 << (bit % 8)
				errs(t, "another key", other, "k3b", b, many, api.ErrSeal)
			}
			for _, label := range []string{"k3a", "ns2", "nst", "k3", "k3b ", "K3b", " k3b", "k", "3b", "k3b\x00", longest} {
				errs(t, "label "+label, word(i), label, b, many, api.ErrSeal)
			}
		}
	}
}

func TestPartsForWrongLabels(t *testing.T) { // P16.1: ErrArg comes first, for bytes of any length and numbers of any kind
	for _, label := range otherLabels() {
		for _, b := range []string{"", "a", string(sample(47)), string(sample(48)), string(sample(1048)), string(sample(1049)), locked(word(1), label, word(2), encoded("a"))} {
			for _, many := range []int{0, 1, 2, -1, math.MaxInt} {
				errs(t, "a wrong label", word(1), label, b, many, api.ErrArg)
			}
		}
	}
}

func TestPartsOfCutBytes(t *testing.T) { // P16.1: every prefix, every rest, and more bytes
	for _, texts := range [][]string{nil, {"a"}, {"bob", text(word(5)), text(word(6)), number(7)}, slices.Repeat([]string{"x"}, 20)} {
		b := sealedAs(word(1), "nst", word(9), texts...)
		for n := range b {
			want := api.ErrSeal
			if n < 48 {
				want = api.ErrShort
			}
			for _, many := range []int{len(texts), len(texts) - 1, 0} {
				errs(t, "a prefix", word(1), "nst", b[:n], many, want)
				errs(t, "a rest", word(1), "nst", b[len(b)-n:], many, want)
			}
		}
		for _, more := range []string{"\x00", "a", "\xff", "\x00\x00", b} {
			errs(t, "more bytes", word(1), "nst", b+more, len(texts), api.ErrSeal)
			errs(t, "more bytes in front", word(1), "nst", more+b, len(texts), api.ErrSeal)
		}
		for _, length := range []int{1049, 1050, 5000} {
			errs(t, "many more bytes", word(1), "nst", b+strings.Repeat("a", length-len(b)), len(texts), api.ErrFull)
		}
	}
}

func TestPartsOfTurnedBits(t *testing.T) { // P16.1: any one bit
	for _, texts := range lists()[:6] {
		b := []byte(sealedAs(word(1), "ns3", word(9), texts...))
		for bit := range 8 * len(b) {
			b[bit/8] ^= 1 << (bit % 8)
			errs(t, "a bit turned", word(1), "ns3", string(b), len(texts), api.ErrSeal)
			b[bit/8] ^= 1 << (bit % 8)
		}
		if err := opens(t, word(1), "ns3", string(b), len(texts)); err != api.OK {
			t.Errorf("with no bit turned any more: error %d", err)
		}
	}
}

func TestPartsOfOtherPlaintexts(t *testing.T) { // P16.1: sealed bytes that are not fields: ErrForm, not field.Split's error
	twenty := slices.Repeat([]string{"a"}, 20)
	for i, plain := range []string{
		"a", "\x00", "\xff", "\x00\x01", "\x00\x05abcd", "\x01\xf4a", "\xff\xff", "ab", encoded("a", "b") + "\x00", encoded("a", "b") + "\x00\x01",
		encoded("a", "b", "c")[:8], encoded(append(twenty, "")...), encoded(append(twenty, "a")...), encoded(twenty...) + "\x00",
		encoded(string(sample(501))), encoded(string(sample(501)), "a"), encoded("a", string(sample(600))), string(sample(1000)), strings.Repeat("\x00", 1000), strings.Repeat("\x00", 42), strings.Repeat("\x00", 3),
	} {
		b := locked(word(1), "ns2", word(2), plain)
		for many := -3; many <= 25; many++ {
			errs(t, "plaintext "+string(rune('a'+i)), word(1), "ns2", b, many, api.ErrForm)
			errs(t, "plaintext "+string(rune('a'+i))+", with another key", word(2), "ns2", b, many, api.ErrSeal)
		}
	}
	for n := range 501 {
		plain := strings.Repeat("\x00", 2*n)
		for _, many := range []int{n, 19, 20, 21, 500} {
			opens(t, word(1), "ns2", locked(word(1), "ns2", word(2), plain), many)
		}
	}
}

func TestPartsOfAnyBytes(t *testing.T) { // P16.1: lists at random, bytes of which are others, sealed or not
	met := map[api.Errno]int{}
	r := rand.New(rand.NewSource(1))
	for range 8000 {
		var texts []string
		for range r.Intn(6) {
			texts = append(texts, string(sample(r.Intn(1+r.Intn(300)))))
		}
		plain := []byte(encoded(texts...))
		if len(plain) > 0 && r.Intn(2) == 0 {
			plain[r.Intn(min(8, len(plain)))] ^= byte(r.Intn(256))
		}
		b := []byte(locked(word(r.Intn(2)), "ns2", word(2), string(plain)))
		if r.Intn(5) == 0 {
			b[r.Intn(len(b))] ^= byte(r.Intn(256))
		}
		if r.Intn(9) == 0 {
			b = b[:r.Intn(len(b))]
		}
		met[opens(t, word(r.Intn(2)), "ns2", string(b), max(0, len(texts)-r.Intn(2)))]++
	}
	for _, err := range []api.Errno{api.OK, api.ErrForm, api.ErrShort, api.ErrSeal} {
		if met[err] < 20 {
			t.Errorf("error %d was met %d times", err, met[err])
		}
	}
}

func TestSealedAndPartsAreTheCallers(t *testing.T) { // R3: what is written into a result changes no argument and no other result, nor the other way about
	for i, texts := range lists() {
		want := sealedAs(word(i), "ns2", word(2), texts...)
		memory := []byte(strings.Join(texts, "") + "behind")
		before := bytes.Clone(memory)
		var parts [][]byte
		at := 0
		for _, text := range texts { // each part with the next one behind it in memory
			parts = append(parts, memory[at:at+len(text)])
			at += len(text)
		}
		b, other := kdc.Sealed(word(i), "ns2", word(2), parts...), kdc.Sealed(word(i), "ns2", word(2), parts...)
		kdc.Sealed(word(i), "", word(2), parts...)
		clear(b[:cap(b)])
		if !bytes.Equal(memory, before) || string(other) != want || !slices.Equal(textsOf(parts), texts) {
			t.Fatalf("list %d: Sealed shares memory", i)
		}
		clear(memory)
		if string(other) != want {
			t.Fatalf("list %d: Sealed shares memory with its parts", i)
		}

		input := append(bytes.Clone(other), "behind"...)
		inputBefore := bytes.Clone(input)
		b = input[:len(other)]
		got, err := kdc.Parts(word(i), "ns2", b, len(texts))
		others, othersErr := kdc.Parts(word(i), "ns2", b, len(texts))
		kdc.Parts(word(i), "ns2", b, len(texts)+1)
		kdc.Parts(word(i+1), "ns2", b, len(texts))
		if err != api.OK || othersErr != api.OK {
			t.Fatalf("list %d: errors %d and %d", i, err, othersErr)
		}
		for j, part := range got { // what is written into one part, and behind its end, is not in the next one
			clear(part[:cap(part)])
			if !slices.Equal(textsOf(got[j+1:]), texts[j+1:]) {
				t.Fatalf("list %d: part %d shares memory with another", i, j)
			}
		}
		clear(got[:cap(got)])
		if !bytes.Equal(input, inputBefore) || !slices.Equal(textsOf(others), texts) {
			t.Fatalf("list %d: Parts shares memory", i)
		}
		clear(input)
		if !slices.Equal(textsOf(others), texts) {
			t.Fatalf("list %d: Parts shares memory with its bytes", i)
		}
	}
}

func TestGreatArguments(t *testing.T) { // R7: parts, labels and bytes by the hundreds of millions
	long := make([]byte, 1<<28)
	if b := kdc.Sealed(word(1), "ns2", word(2), []byte("a"), long); len(b) != 0 {
		t.Errorf("a great part: %d bytes", len(b))
	}
	if b := kdc.Sealed(word(1), "ns2", word(2), make([][]byte, 1<<23)...); len(b) != 0 {
		t.Errorf("many parts: %d bytes", len(b))
	}
	label := string(long)
	if b := kdc.Sealed(word(1), label, word(2), []byte("a")); len(b) != 0 {
		t.Errorf("a great label: %d bytes", len(b))
	}
	if parts, err := kdc.Parts(word(1), label, long, 1); err != api.ErrArg || len(parts) != 0 {
		t.Errorf("a great label: error %d and %d fields", err, len(parts))
	}
	if parts, err := kdc.Parts(word(1), "ns2", long, 1); err != api.ErrFull || len(parts) != 0 {
		t.Errorf("great bytes: error %d and %d fields", err, len(parts))
	}
}
