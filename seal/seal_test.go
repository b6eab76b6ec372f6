package seal_test

import (
	"bytes"
	"crypto/aes"
	"crypto/cipher"
	"crypto/hkdf"
	"crypto/hmac"
	"crypto/sha256"
	"encoding/hex"
	"go/parser"
	"go/token"
	"math/rand"
	"path/filepath"
	"strings"
	"sync"
	"testing"

	"bartizan/api"
	"bartizan/ctr"
	"bartizan/mac"
	"bartizan/seal"
)

const longest = "forty bytes are as long as a label gets."

func bytesOf(t *testing.T, digits string) []byte {
	t.Helper()
	b, err := hex.DecodeString(digits)
	if err != nil {
		t.Fatal(err)
	}
	return b
}

func wordOf(t *testing.T, digits string) api.Word {
	t.Helper()
	return api.Word(bytesOf(t, digits))
}

// sample is bytes without a pattern, the same ones in each run.
func sample(n int) []byte {
	b := make([]byte, n)
	rand.New(rand.NewSource(int64(n))).Read(b)
	return b
}

// words is n words without a pattern, the same ones in each run.
func words(n int) []api.Word {
	all := make([]api.Word, n)
	for i := range all {
		all[i] = api.Word(sample(16 * n)[16*i:])
	}
	return all
}

// counters is counters without a pattern, the first one, and those behind which the first one comes soon.
func counters() []api.Word {
	var last api.Word
	for i := range last {
		last[i] = 255
	}
	beforeLast := last
	beforeLast[15] = 254
	return append(words(3), api.Word{}, api.Word{15: 255}, api.Word{8: 127, 15: 1}, beforeLast, last)
}

// right is labels that are valid: their length counts in bytes, whatever these are.
func right() []string {
	return []string{
		"a", "ns2", "a2ksl", "t0", " ", "\x00", "\xff", "bartizan", "a label with spaces", "line\nline", "\x00\x01\xfe\xff\x80",
		longest[:39], longest, strings.Repeat("\x00", 40), strings.Repeat("\xff", 40), strings.Repeat("é", 20), strings.Repeat("水", 13),
	}
}

// wrong is labels that are not valid, those of few runes but many bytes among them.
func wrong() []string {
	return []string{
		"", longest + "a", longest + "\x00", strings.Repeat(" ", 41), strings.Repeat("ab", 40), strings.Repeat("a", 256+20),
		strings.Repeat("a", 1<<20), strings.Repeat("é", 21), strings.Repeat("水", 14),
	}
}

// lengths is of plaintexts, around the edges of blocks and of what Seal takes.
func lengths() []int {
	return []int{0, 1, 2, 15, 16, 17, 31, 32, 33, 47, 48, 49, 64, 100, 500, 983, 984, 985, 999, 1000}
}

// keysOf is the encryption key and the authentication key by the document's words.
func keysOf(t *testing.T, key api.Word, label string) ([16]byte, []byte) {
	t.Helper()
	keys, err := mac.Expand(key[:], "bartizan "+label, 48)
	if err != api.OK {
		t.Fatal(err)
	}
	return [16]byte(keys[:16]), keys[16:]
}

// coded is b and its code, with the authentication key.
func coded(t *testing.T, key api.Word, label string, b []byte) []byte {
	t.Helper()
	_, authentication := keysOf(t, key, label)
	code := mac.Mac(authentication, b)
	return append(bytes.Clone(b), code[:]...)
}

// form is the sealed form by the document's words, from mac and ctr, of plaintexts of any length and for labels of any.
func form(t *testing.T, key api.Word, label string, first api.Word, plain []byte) []byte {
	t.Helper()
	encryption, _ := keysOf(t, key, label)
	return coded(t, key, label, append(bytes.Clone(first[:]), ctr.Flip(encryption, first, plain)...))
}

// published is the sealed form by the library's HKDF, AES, counter mode and HMAC.
func published(t *testing.T, key api.Word, label string, first api.Word, plain []byte) []byte {
	t.Helper()
	keys, err := hkdf.Expand(sha256.New, key[:], "bartizan "+label, 48)
	if err != nil {
		t.Fatal(err)
	}
	block, err := aes.NewCipher(keys[:16])
	if err != nil {
		t.Fatal(err)
	}
	out := append(bytes.Clone(first[:]), plain...)
	cipher.NewCTR(block, first[:]).XORKeyStream(out[16:], out[16:])
	code := hmac.New(sha256.New, keys[16:])
	code.Write(out)
	return code.Sum(out)
}

// sealed is what Seal answers where it must not refuse.
func sealed(t *testing.T, key api.Word, label string, first api.Word, plain []byte) []byte {
	t.Helper()
	b, err := seal.Seal(key, label, first, plain)
	if err != api.OK {
		t.Fatalf("Seal of %d bytes for %q: error %d", len(plain), label, err)
	}
	return b
}

// opened is what Open answers where it must not refuse.
func opened(t *testing.T, key api.Word, label string, b []byte) []byte {
	t.Helper()
	plain, err := seal.Open(key, label, b)
	if err != api.OK {
		t.Fatalf("Open of %d bytes for %q: error %d", len(b), label, err)
	}
	return plain
}

// sealRefuses: with the error there are no bytes (R1).
func sealRefuses(t *testing.T, label string, plain []byte, want api.Errno) {
	t.Helper()
	b, err := seal.Seal(words(1)[0], label, words(2)[1], plain)
	if err != want || len(b) != 0 {
		t.Errorf("Seal of %d bytes for a label of %d: error %d and %d bytes, want error %d", len(plain), len(label), err, len(b), want)
	}
}

// openRefuses: with the error there are no bytes (R1).
func openRefuses(t *testing.T, key api.Word, label string, b []byte, want api.Errno) {
	t.Helper()
	plain, err := seal.Open(key, label, b)
	if err != want || len(plain) != 0 {
		t.Errorf("Open of %d bytes for a label of %d: error %d and %d bytes, want error %d", len(b), len(label), err, len(plain), want)
	}
}

func TestKnownForms(t *testing.T) { // P5.1, P5.2, P1: the sealed forms are openssl's (its HKDF, AES-128-CTR and HMAC)
	for _, c := range []struct{ key, label, first, plain, want string }{
		{
			"000102030405060708090a0b0c0d0e0f", "ns2", "f0f1f2f3f4f5f6f7f8f9fafbfcfdfeff", "",
			"f0f1f2f3f4f5f6f7f8f9fafbfcfdfeff" + "" +
				"5f4bcefe2f2077ef1e09faa53d5986edb05eb4b96e345b512cac5032031dccc5",
		},
		{
			"000102030405060708090a0b0c0d0e0f", "ns2", "f0f1f2f3f4f5f6f7f8f9fafbfcfdfeff", "61",
			"f0f1f2f3f4f5f6f7f8f9fafbfcfdfeff" + "ec" +
				"20f4fa42962de97460facfbab7145184d101c04e1327eea329ef994d1c39c260",
		},
		{
			"2b7e151628aed2a6abf7158809cf4f3c", "t0", "ffffffffffffffffffffffffffffffff",
			"000102030405060708090a0b0c0d0e0f101112131415161718191a1b1c1d1e1f20212223",
			"ffffffffffffffffffffffffffffffff" + "61c1f4f06b5fb64ae687ec4e6d5e5376a71cd201533a3c2d9267a91262d74b631977e2a5" +
				"59f694d6480d2b72d44b0fc8b0813e0f84a4950f03b5889ce7bc94d4309af59e",
		},
		{
			"00000000000000000000000000000000", longest, "00000000000000000000000000000000",
			"6bc1bee22e409f96e93d7e117393172aae2d8a571e03ac9c9eb76fac45af8e51",
			"00000000000000000000000000000000" + "4b02927376e6eaee4e75e0211077b9c56804548fd09d99b6b4aaed4db0601d3f" +
				"b74ae94c725984ee593b85660d2a069f97925af95eca320cd365b2fdfc7e0642",
		},
	} {
		key, first, plain := wordOf(t, c.key), wordOf(t, c.first), bytesOf(t, c.plain)
		if got := hex.EncodeToString(sealed(t, key, c.label, first, plain)); got != c.want {
			t.Errorf("Seal of %s for %q: %s, want %s", c.plain, c.label, got, c.want)
		}
		if got := hex.EncodeToString(opened(t, key, c.label, bytesOf(t, c.want))); got != c.plain {
			t.Errorf("Open of %s for %q: %s, want %s", c.want, c.label, got, c.plain)
		}
	}
}

func TestSealOfNoBytes(t *testing.T) { // P5.1, R2: the chapter's example: 48 bytes
	key, first := words(2)[0], words(2)[1]
	want := form(t, key, "ns2", first, nil)
	for i, plain := range [][]byte{nil, {}, make([]byte, 0, 64), sample(64)[16:16]} {
		if got := sealed(t, key, "ns2", first, plain); len(got) != 48 || !bytes.Equal(got, want) {
			t.Errorf("plaintext %d: %x, want %x", i, got, want)
		}
	}
}

func TestSealByItsParts(t *testing.T) { // P5.1, P1: the counter, the bytes encrypted from it on, and the code of both
	for i, label := range right() {
		for j, n := range lengths() {
			key, first, plain := words(5)[(i+j)%5], counters()[j%len(counters())], sample(n)
			encryption, authentication := keysOf(t, key, label)
			got := sealed(t, key, label, first, plain)
			if len(got) != n+48 {
				t.Fatalf("%d bytes for %q: %d bytes", n, label, len(got))
			}
			if !bytes.Equal(got[:16], first[:]) {
				t.Fatalf("%d bytes for %q: counter %x, want %x", n, label, got[:16], first)
			}
			if want := ctr.Flip(encryption, first, plain); !bytes.Equal(got[16:16+n], want) {
				t.Fatalf("%d bytes for %q: encrypted %x, want %x", n, label, got[16:16+n], want)
			}
			if want := mac.Mac(authentication, first[:], got[16:16+n]); !bytes.Equal(got[16+n:], want[:]) {
				t.Fatalf("%d bytes for %q: code %x, want %x", n, label, got[16+n:], want)
			}
			if !bytes.Equal(got, published(t, key, label, first, plain)) {
				t.Fatalf("%d bytes for %q: %x by the library", n, label, got)
			}
		}
	}
}

func TestSealOfAllLengths(t *testing.T) { // P5.1: every plaintext that is taken, and every label
	key, first := words(2)[0], words(2)[1]
	for n := range 1001 {
		if got := sealed(t, key, "k4", first, sample(n)); !bytes.Equal(got, form(t, key, "k4", first, sample(n))) {
			t.Errorf("%d bytes: %x", n, got)
		}
	}
	for n := 1; n <= 40; n++ {
		label := string(sample(n))
		if got := sealed(t, key, label, first, sample(20)); !bytes.Equal(got, form(t, key, label, first, sample(20))) {
			t.Errorf("a label of %d bytes: %x", n, got)
		}
	}
}

func TestSealOfAllKeys(t *testing.T) { // P5.1: each bit of the key and of the counter counts, and each byte of the label
	key, first, plain := words(2)[0], words(2)[1], sample(40)
	before := sealed(t, key, longest, first, plain)
	for i := range 128 {
		otherKey, otherFirst := key, first
		otherKey[i/8] ^= 1 << (i % 8)
		otherFirst[i/8] ^= 1 << (i % 8)
		for _, c := range [][2]api.Word{{otherKey, first}, {key, otherFirst}} {
			got := sealed(t, c[0], longest, c[1], plain)
			if !bytes.Equal(got, form(t, c[0], longest, c[1], plain)) || bytes.Equal(got[16:], before[16:]) {
				t.Errorf("key %x, counter %x: %x", c[0], c[1], got)
			}
		}
	}
	for i := range longest {
		other := []byte(longest)
		other[i] ^= 32
		got := sealed(t, key, string(other), first, plain)
		if !bytes.Equal(got, form(t, key, string(other), first, plain)) || bytes.Equal(got[16:], before[16:]) {
			t.Errorf("label %q: %x", other, got)
		}
	}
}

func TestSealRefuses(t *testing.T) { // P5.1, P0, R1: where both are wrong, the label comes first
	for _, label := range wrong() {
		for _, n := range []int{0, 1, 16, 999, 1000, 1001, 1002, 2000, 1 << 16} {
			sealRefuses(t, label, sample(n), api.ErrArg)
		}
		sealRefuses(t, label, nil, api.ErrArg)
	}
	for _, label := range right() {
		for _, n := range []int{1001, 1002, 1016, 1024, 1048, 1049, 2000, 1<<16 + 10, 1 << 20} {
			sealRefuses(t, label, make([]byte, n), api.ErrFull)
		}
	}
}

func TestOpenAtItsEdges(t *testing.T) { // P5.2: 0, 47, 48, 1048 and 1049 bytes, and those beside, with a code that is right where there is room for one
	key, label := words(1)[0], "nst"
	for _, n := range []int{0, 1, 15, 16, 31, 32, 33, 46, 47, 48, 49, 50, 1047, 1048, 1049, 1050, 2000, 1 << 16} {
		b := coded(t, key, label, sample(max(0, n-32)))[max(0, 32-n):]
		switch plain, err := seal.Open(key, label, b); {
		case len(b) != n:
			t.Fatalf("%d bytes, for %d", len(b), n)
		case n < 48 && (err != api.ErrShort || len(plain) != 0):
			t.Errorf("%d bytes: error %d and %d bytes", n, err, len(plain))
		case n > 1048 && (err != api.ErrFull || len(plain) != 0):
			t.Errorf("%d bytes: error %d and %d bytes", n, err, len(plain))
		case n >= 48 && n <= 1048 && (err != api.OK || len(plain) != n-48):
			t.Errorf("%d bytes: error %d and %d bytes", n, err, len(plain))
		}
	}
	openRefuses(t, key, label, nil, api.ErrShort)
	openRefuses(t, key, label, []byte{}, api.ErrShort)
}

func TestOpenOfWrongBytes(t *testing.T) { // P5.2: of every length; the length is looked at before the code
	key := words(1)[0]
	for n := range 1100 {
		want := api.ErrSeal
		if n < 48 {
			want = api.ErrShort
		} else if n > 1048 {
			want = api.ErrFull
		}
		openRefuses(t, key, "kt", sample(n), want)
		openRefuses(t, key, "kt", make([]byte, n), want)
	}
	openRefuses(t, key, "kt", make([]byte, 1<<20), api.ErrFull)
}

func TestOpenForWrongLabels(t *testing.T) { // P5.2, P0, R1: whatever else is wrong, the label comes first, and also where nothing else is
	key, first := words(2)[0], words(2)[1]
	for _, label := range wrong() {
		for _, n := range []int{0, 1, 47, 48, 49, 500, 1048, 1049, 2000} {
			openRefuses(t, key, label, sample(n), api.ErrArg)
		}
		openRefuses(t, key, label, nil, api.ErrArg)
		for _, n := range []int{0, 1, 1000, 1001} {
			openRefuses(t, key, label, form(t, key, label, first, sample(n)), api.ErrArg)
		}
	}
	openRefuses(t, key, "ns2", form(t, key, "ns2", first, sample(1001)), api.ErrFull)
}

func TestOpenOfInvertedBits(t *testing.T) { // P5.2: any one bit of the counter, of the encrypted bytes and of the code
	key, first := words(2)[0], words(2)[1]
	for _, n := range []int{0, 1, 15, 16, 17, 53, 1000} {
		b := sealed(t, key, "k5", first, sample(n))
		for bit := range 8 * len(b) {
			b[bit/8] ^= 1 << (bit % 8)
			openRefuses(t, key, "k5", b, api.ErrSeal)
			b[bit/8] ^= 1 << (bit % 8)
		}
		if !bytes.Equal(opened(t, key, "k5", b), sample(n)) {
			t.Errorf("%d bytes, with no bit inverted any more", n)
		}
	}
}

func TestOpenOfSeveralChanges(t *testing.T) { // P5.2: differences in the code must not cancel each other out
	key, first := words(2)[0], words(2)[1]
	b := sealed(t, key, "k5", first, sample(20))
	for i := range b {
		for j := range i {
			b[i] ^= 85
			b[j] ^= 85
			openRefuses(t, key, "k5", b, api.ErrSeal)
			b[i] ^= 85
			b[j] ^= 85
		}
	}
}

func TestOpenOfCutBytes(t *testing.T) { // P5.2: less or more of them, in front and behind, and the parts in another order
	key, first := words(2)[0], words(2)[1]
	b := sealed(t, key, "a2ns", first, sample(60))
	for n := 1; n <= len(b); n++ {
		want := api.ErrSeal
		if len(b)-n < 48 {
			want = api.ErrShort
		}
		openRefuses(t, key, "a2ns", b[n:], want)
		openRefuses(t, key, "a2ns", b[:len(b)-n], want)
		openRefuses(t, key, "a2ns", append(bytes.Clone(b), b[:n]...), api.ErrSeal)
		openRefuses(t, key, "a2ns", append(bytes.Clone(b[len(b)-n:]), b...), api.ErrSeal)
	}
	openRefuses(t, key, "a2ns", append(bytes.Clone(b), 0), api.ErrSeal)
	openRefuses(t, key, "a2ns", bytes.Join([][]byte{b[76:], b[:76]}, nil), api.ErrSeal)
	openRefuses(t, key, "a2ns", bytes.Join([][]byte{b[16:76], b[:16], b[76:]}, nil), api.ErrSeal)
}

func TestOpenByOtherKeys(t *testing.T) { // P5.2: each bit of the key, and other labels
	key, first := words(2)[0], words(2)[1]
	for _, n := range []int{0, 16, 1000} {
		b := sealed(t, key, "ns5", first, sample(n))
		for i := range 128 {
			other := key
			other[i/8] ^= 1 << (i % 8)
			openRefuses(t, other, "ns5", b, api.ErrSeal)
		}
		for _, other := range append(right(), "ns4", "ns", "s5", "ns5 ", " ns5", "NS5", "ns5\x00", "ns5\x01", "n", "5sn", "ns5ns5") {
			openRefuses(t, key, other, b, api.ErrSeal)
		}
	}
}

func TestOpenOfOtherParts(t *testing.T) { // P5.2: the counter, the encrypted bytes and the code of two sealed forms, mixed
	key := words(1)[0]
	a := sealed(t, key, "a3ns", words(2)[0], sample(40))
	b := sealed(t, key, "a3ns", words(2)[1], append(sample(39), 1))
	for mix := 1; mix < 7; mix++ {
		var both []byte
		for i, part := range [][2]int{{0, 16}, {16, 56}, {56, 88}} {
			from := [][]byte{a, b}[mix>>i&1]
			both = append(both, from[part[0]:part[1]]...)
		}
		openRefuses(t, key, "a3ns", both, api.ErrSeal)
	}
}

func TestOpenOfUnlikeCodes(t *testing.T) { // P5.2: codes of the same bytes, but by the wrong key, of less, or of the plaintext
	key, first, plain := words(2)[0], words(2)[1], sample(40)
	b := sealed(t, key, "k3a", first, plain)
	front := b[:56]
	encryption, authentication := keysOf(t, key, "k3a")
	for i, code := range [][32]byte{
		{}, mac.Mac(key[:], front), mac.Mac(encryption[:], front), mac.Mac(nil, front),
		mac.Mac(authentication, front[16:]), mac.Mac(authentication, front[:16]), mac.Mac(authentication),
		mac.Mac(authentication, front[16:], front[:16]), mac.Mac(authentication, first[:], plain),
		mac.Mac(authentication, []byte("k3a"), front), mac.Mac(authentication, front, []byte("k3a")), sha256.Sum256(front),
	} {
		plain, err := seal.Open(key, "k3a", append(bytes.Clone(front), code[:]...))
		if err != api.ErrSeal || len(plain) != 0 {
			t.Errorf("code %d: error %d and %d bytes", i, err, len(plain))
		}
	}
}

func TestOpenRestores(t *testing.T) { // P5.3: what was sealed, and 48 bytes more of it
	for i, label := range right() {
		for j, n := range lengths() {
			key, first := words(5)[(i+j)%5], counters()[(i+j)%len(counters())]
			for _, plain := range [][]byte{sample(n), make([]byte, n), bytes.Repeat([]byte{255}, n)} {
				b := sealed(t, key, label, first, plain)
				if len(b) != len(plain)+48 {
					t.Fatalf("%d bytes for %q: %d bytes", n, label, len(b))
				}
				if got := opened(t, key, label, b); !bytes.Equal(got, plain) {
					t.Fatalf("%d bytes for %q: back as %x", n, label, got)
				}
			}
		}
	}
}

func TestOpenRestoresAllLengths(t *testing.T) { // P5.3
	key, first := words(2)[0], words(2)[1]
	for n := range 1001 {
		b := sealed(t, key, "t4", first, sample(n))
		if got := opened(t, key, "t4", b); !bytes.Equal(got, sample(n)) || len(b) != n+48 {
			t.Errorf("%d bytes, sealed in %d: back as %x", n, len(b), got)
		}
	}
}

func TestWhatOpensIsSealed(t *testing.T) { // P5.3: any counter and bytes whose code is right: Seal tells them of what they open to
	for i, label := range right() {
		for _, n := range lengths() {
			key := words(5)[i%5]
			b := coded(t, key, label, sample(16+n))
			plain := opened(t, key, label, b)
			if len(plain) != n {
				t.Fatalf("%d bytes for %q: %d bytes", len(b), label, len(plain))
			}
			if got := sealed(t, key, label, api.Word(b[:16]), plain); !bytes.Equal(got, b) {
				t.Fatalf("%d bytes for %q: sealed again as %x", n, label, got)
			}
		}
	}
}

func TestSealedTwice(t *testing.T) { // P5.3: a sealed form is a plaintext like any other, also for its own key and label
	key, first := words(2)[0], words(2)[1]
	plain := sample(700)
	layers := [][]byte{plain}
	for len(layers[len(layers)-1])+48 <= 1000 {
		layers = append(layers, sealed(t, key, "kt", first, layers[len(layers)-1]))
	}
	for i := len(layers) - 1; i > 0; i-- {
		if got := opened(t, key, "kt", layers[i]); !bytes.Equal(got, layers[i-1]) {
			t.Errorf("layer %d: back as %x", i, got)
		}
	}
}

func TestArgumentsStay(t *testing.T) { // R3: the bytes, and those behind them in the same memory
	key, first := words(2)[0], words(2)[1]
	keyBefore, firstBefore := key, first
	for _, n := range []int{0, 1, 15, 16, 17, 100, 1000, 1001} {
		memory, before := sample(n+300), sample(n+300)
		seal.Seal(key, "ns2", first, memory[8:8+n])
		seal.Seal(key, "", first, memory[8:8+n])
		if !bytes.Equal(memory, before) {
			t.Errorf("Seal of %d bytes changed its argument", n)
		}
		form := form(t, key, "ns2", first, sample(n))
		memory = append(append(sample(8), form...), sample(300)...)
		before = bytes.Clone(memory)
		for _, label := range []string{"ns2", "ns3", ""} { // one opens, one does not, one is not valid
			seal.Open(key, label, memory[8:8+len(form)])
		}
		if !bytes.Equal(memory, before) {
			t.Errorf("Open of %d bytes changed its argument", len(form))
		}
	}
	if key != keyBefore || first != firstBefore {
		t.Error("a word was changed")
	}
}

func TestResultsAreTheCallers(t *testing.T) { // R3: no memory is shared with an argument, nor between two results
	key, first := words(2)[0], words(2)[1]
	for _, n := range []int{0, 1, 16, 17, 1000} {
		plain := sample(n)
		want := form(t, key, "k4", first, plain)
		b, other := sealed(t, key, "k4", first, plain), sealed(t, key, "k4", first, plain)
		clear(b[:cap(b)])
		if !bytes.Equal(plain, sample(n)) || !bytes.Equal(other, want) {
			t.Errorf("Seal of %d bytes: a changed result changed its argument, or another result", n)
		}
		clear(plain)
		if !bytes.Equal(other, want) {
			t.Errorf("Seal of %d bytes: a changed argument changed a result", n)
		}
		back, otherBack := opened(t, key, "k4", other), opened(t, key, "k4", other)
		clear(back[:cap(back)])
		if !bytes.Equal(other, want) || !bytes.Equal(otherBack, sample(n)) {
			t.Errorf("Open of %d bytes: a changed result changed its argument, or another result", n+48)
		}
		clear(other)
		if !bytes.Equal(otherBack, sample(n)) || !bytes.Equal(opened(t, key, "k4", want), sample(n)) {
			t.Errorf("Open of %d bytes: a changed argument changed a result", n+48)
		}
	}
}

func TestCallsAreApart(t *testing.T) { // R4: whatever was called before, with other words, labels and bytes, and with errors
	keys, labels := words(12), right()
	for i, key := range keys {
		label, first, plain := labels[i], keys[(i+5)%12], sample(30*i)
		want := form(t, key, label, first, plain)
		for j, other := range keys {
			seal.Seal(other, labels[j], keys[i], sample(40*j))
			seal.Seal(key, labels[j], first, sample(1001))
			seal.Seal(key, "", first, plain)
			seal.Open(other, label, want)
			seal.Open(key, labels[j], want)
			seal.Open(key, label, want[:47])
			if !bytes.Equal(sealed(t, key, label, first, plain), want) || !bytes.Equal(opened(t, key, label, want), plain) {
				t.Fatalf("call %d behind call %d", i, j)
			}
		}
	}
}

func TestSeveralGoroutines(t *testing.T) { // R5: also on the same bytes
	key, plain := words(1)[0], sample(300)
	var group sync.WaitGroup
	for i, first := range words(8) {
		want := published(t, key, "a3ksl", first, plain)
		group.Go(func() {
			for n := range 50 {
				b, err := seal.Seal(key, "a3ksl", first, plain)
				back, backErr := seal.Open(key, "a3ksl", want)
				if err != api.OK || backErr != api.OK || !bytes.Equal(b, want) || !bytes.Equal(back, plain) {
					t.Errorf("goroutine %d, call %d", i, n)
				}
			}
		})
	}
	group.Wait()
}

func TestImports(t *testing.T) { // R6, and the map: seal imports api, mac and ctr
	files, err := filepath.Glob("*.go")
	if err != nil || len(files) == 0 {
		t.Fatal("no files", err)
	}
	for _, name := range files {
		if strings.HasSuffix(name, "_test.go") {
			continue
		}
		file, err := parser.ParseFile(token.NewFileSet(), name, nil, parser.ImportsOnly)
		if err != nil {
			t.Fatal(err)
		}
		for _, i := range file.Imports {
			switch i.Path.Value {
			case `"bartizan/api"`, `"bartizan/mac"`, `"bartizan/ctr"`:
			default:
				t.Errorf("%s imports %s", name, i.Path.Value)
			}
		}
	}
}
