package mac_test

import (
	"bytes"
	"crypto/hmac"
	"crypto/sha256"
	"encoding/hex"
	"go/parser"
	"go/token"
	"math"
	"math/rand"
	"path/filepath"
	"strings"
	"sync"
	"testing"

	"bartizan/api"
	"bartizan/mac"
)

// sample is bytes of all values, without a short period.
func sample(n int) []byte {
	b := make([]byte, n)
	rand.New(rand.NewSource(int64(n))).Read(b)
	return b
}

func bytesOf(t *testing.T, digits string) []byte {
	t.Helper()
	b, err := hex.DecodeString(digits)
	if err != nil {
		t.Fatal(err)
	}
	return b
}

// run is the bytes from first to last, in order.
func run(first, last int) []byte {
	var b []byte
	for i := first; i <= last; i++ {
		b = append(b, byte(i))
	}
	return b
}

func fill(value byte, n int) []byte { return bytes.Repeat([]byte{value}, n) }

// code is what the library says that Mac must answer.
func code(key []byte, parts ...[]byte) [32]byte {
	h := hmac.New(sha256.New, key)
	for _, p := range parts {
		h.Write(p)
	}
	return [32]byte(h.Sum(nil))
}

// output is all 255 blocks for a key and a purpose, by the document's words and the library's codes.
func output(key []byte, purpose string) []byte {
	var all, previous []byte
	for n := 1; n <= 255; n++ {
		block := code(key, previous, []byte(purpose), []byte{byte(n)})
		previous = block[:]
		all = append(all, previous...)
	}
	return all
}

// expanded is what Expand answers where it must not refuse.
func expanded(t *testing.T, key []byte, purpose string, many int) []byte {
	t.Helper()
	b, err := mac.Expand(key, purpose, many)
	if err != api.OK {
		t.Fatalf("Expand of %d bytes: error %d", many, err)
	}
	return b
}

func TestPublishedCodes(t *testing.T) { // P2.1, P1
	const longText = "This is a test using a larger than block-size key and a larger than block-size data. The key needs to be hashed before being used by the HMAC algorithm."
	for _, c := range []struct {
		name      string
		key, data []byte
		want      string // the first bytes; RFC 4231 publishes but 16 of case 5
	}{
		// RFC 2104 publishes these inputs with MD5; the codes with SHA-256 are openssl's.
		{"RFC 2104, 1", fill(0x0b, 16), []byte("Hi There"), "492ce020fe2534a5789dc3848806c78f4f6711397f08e7e7a12ca5a4483c8aa6"},
		{"RFC 2104, 2", []byte("Jefe"), []byte("what do ya want for nothing?"), "5bdcc146bf60754e6a042426089575c75a003f089d2739839dec58b964ec3843"},
		{"RFC 2104, 3", fill(0xaa, 16), fill(0xdd, 50), "7dda3cc169743a6484649f94f0eda0f9f2ff496a9733fb796ed5adb40a44c3c1"},
		{"RFC 4231, 1", fill(0x0b, 20), []byte("Hi There"), "b0344c61d8db38535ca8afceaf0bf12b881dc200c9833da726e9376c2e32cff7"},
		{"RFC 4231, 2", []byte("Jefe"), []byte("what do ya want for nothing?"), "5bdcc146bf60754e6a042426089575c75a003f089d2739839dec58b964ec3843"},
		{"RFC 4231, 3", fill(0xaa, 20), fill(0xdd, 50), "773ea91e36800e46854db8ebd09181a72959098b3ef8c122d9635514ced565fe"},
		{"RFC 4231, 4", run(1, 25), fill(0xcd, 50), "82558a389a443c0ea4cc819899f2083a85f0faa3e578f8077a2e3ff46729665b"},
		{"RFC 4231, 5", fill(0x0c, 20), []byte("Test With Truncation"), "a3b6167473100ee06e0c796c2955552b"},
		{"RFC 4231, 6", fill(0xaa, 131), []byte("Test Using Larger Than Block-Size Key - Hash Key First"), "60e431591ee0b67f0d8a26aacbf5b77f8e0bc6213728c5140546040f0ee37f54"},
		{"RFC 4231, 7", fill(0xaa, 131), []byte(longText), "9b09ffa71b942fcb27635fbcd5b0e944bfdc63644f0713938a7f51535c3a35e2"},
	} {
		d := mac.Mac(c.key, c.data)
		if got := hex.EncodeToString(d[:]); !strings.HasPrefix(got, c.want) {
			t.Errorf("%s: %s, want %s", c.name, got, c.want)
		}
	}
}

func TestCodeByItsWords(t *testing.T) { // P2.1: the chapter's own rule, step by step
	for _, n := range []int{0, 1, 16, 32, 63, 64, 65, 200} {
		key, data := sample(n), sample(77)
		short := key
		if n > 64 {
			d := sha256.Sum256(key)
			short = d[:]
		}
		inner, outer := fill(54, 64), fill(92, 64)
		for i, b := range short {
			inner[i] ^= b
			outer[i] ^= b
		}
		d := sha256.Sum256(append(inner, data...))
		if mac.Mac(key, data) != sha256.Sum256(append(outer, d[:]...)) {
			t.Errorf("a key of %d bytes", n)
		}
	}
}

func TestEveryKeyLength(t *testing.T) { // P2.1
	data := sample(50)
	for n := range 200 {
		if key := sample(n); mac.Mac(key, data) != code(key, data) {
			t.Errorf("a key of %d bytes", n)
		}
	}
	for _, n := range []int{1000, 4096, 1 << 20} {
		if key := sample(n); mac.Mac(key, data) != code(key, data) {
			t.Errorf("a key of %d bytes", n)
		}
	}
}

func TestEveryLength(t *testing.T) { // P2.1: the bytes, around the edges of the digest's padding
	for _, n := range []int{0, 20, 64, 65} {
		key := sample(n)
		for m := range 200 {
			if data := sample(m); mac.Mac(key, data) != code(key, data) {
				t.Errorf("%d bytes with a key of %d", m, n)
			}
		}
	}
	if data := sample(1 << 20); mac.Mac(nil, data) != code(nil, data) {
		t.Error("a part of 2^20 bytes")
	}
}

func TestNoParts(t *testing.T) { // P2.1, R2
	for _, n := range []int{0, 16, 63, 64, 65, 300} {
		key := sample(n)
		want := code(key)
		for i, got := range [][32]byte{
			mac.Mac(key),
			mac.Mac(key, [][]byte{}...),
			mac.Mac(key, nil...),
			mac.Mac(key, []byte{}),
			mac.Mac(key, []byte(nil)),
			mac.Mac(key, nil, []byte{}, nil),
		} {
			if got != want {
				t.Errorf("no bytes, said in way %d, with a key of %d", i, n)
			}
		}
	}
}

func TestNoKey(t *testing.T) { // P2.1, R2
	data := sample(40)
	want := code(nil, data)
	if mac.Mac(nil, data) != want || mac.Mac([]byte{}, data) != want {
		t.Error("Mac with a key of no bytes")
	}
	d := mac.Mac(nil)
	if got := hex.EncodeToString(d[:]); got != "b613679a0814d9ec772f95d778c35fc5ff1697c493715653c6c712144292c5ad" {
		t.Errorf("Mac of nothing with nothing: %s", got)
	}
}

func TestOrderOfParts(t *testing.T) { // P2.1: the parts follow each other as they are given, and none is left out
	a, b := []byte("one"), []byte("two")
	key := sample(20)
	if mac.Mac(key, a, b) != code(key, []byte("onetwo")) || mac.Mac(key, b, a) != code(key, []byte("twoone")) {
		t.Error("two parts")
	}
	if mac.Mac(key, a, a) != code(key, []byte("oneone")) {
		t.Error("one part twice")
	}
	many := make([][]byte, 10000)
	for i := range many {
		many[i] = []byte{byte(i), byte(i >> 8)}
	}
	if mac.Mac(key, many...) != code(key, bytes.Join(many, nil)) {
		t.Error("ten thousand parts")
	}
}

func TestExtract(t *testing.T) { // P2.1: salt is the key, key is the bytes
	for _, n := range []int{0, 1, 32, 63, 64, 65, 200} {
		for _, m := range []int{0, 1, 22, 64, 65, 200} {
			salt, key := sample(n), sample(m)
			got := mac.Extract(salt, key)
			if got != mac.Mac(salt, key) || got != code(salt, key) {
				t.Errorf("a salt of %d bytes and a key of %d", n, m)
			}
		}
	}
	if mac.Extract(nil, nil) != mac.Extract([]byte{}, []byte{}) || mac.Extract(nil, nil) != mac.Mac(nil) {
		t.Error("no salt and no key")
	}
}

func TestPublishedKeys(t *testing.T) { // P2.1, P2.2, P1: RFC 5869, cases 1 to 3
	for i, c := range []struct {
		key, salt, purpose []byte
		extracted, output  string
	}{
		{
			fill(0x0b, 22), run(0x00, 0x0c), run(0xf0, 0xf9),
			"077709362c2e32df0ddc3f0dc47bba6390b6c73bb50f9c3122ec844ad7c2b3e5",
			"3cb25f25faacd57a90434f64d0362f2a2d2d0a90cf1a5a4c5db02d56ecc4c5bf34007208d5b887185865",
		},
		{
			run(0x00, 0x4f), run(0x60, 0xaf), run(0xb0, 0xff),
			"06a6b88c5853361a06104c9ceb35b45cef760014904671014a193f40c15fc244",
			"b11e398dc80327a1c8e7f78c596a49344f012eda2d4efad8a050cc4c19afa97c59045a99cac7827271cb41c65e590e09da3275600c2f09b8367793a9aca3db71cc30c58179ec3e87c14c01d5c1f3434f1d87",
		},
		{
			fill(0x0b, 22), nil, nil,
			"19ef24a32c717b167f33a91d6f648bdf96596776afdb6377ac434c1c293ccb04",
			"8da4e775a563c18f715f802a063c5a31b8a11f5c5ee1879ec3454e5f3c738d2d9d201395faa4b61a96c8",
		},
	} {
		extracted := mac.Extract(c.salt, c.key)
		if got := hex.EncodeToString(extracted[:]); got != c.extracted {
			t.Errorf("case %d, Extract: %s, want %s", i+1, got, c.extracted)
		}
		want := bytesOf(t, c.output)
		if got := expanded(t, extracted[:], string(c.purpose), len(want)); !bytes.Equal(got, want) {
			t.Errorf("case %d, Expand: %x, want %x", i+1, got, want)
		}
	}
}

func TestExpandRefuses(t *testing.T) { // P2.2, R1
	for _, many := range []int{math.MinInt, -8160, -32, -1, 8161, 8192, 1 << 20, math.MaxInt} {
		b, err := mac.Expand([]byte("key"), "purpose", many)
		if err != api.ErrArg || len(b) != 0 {
			t.Errorf("Expand of %d bytes: %d bytes, error %d", many, len(b), err)
		}
	}
}

func TestExpandAtItsEdges(t *testing.T) { // P2.2
	key := sample(32)
	all := output(key, "purpose")
	for _, many := range []int{0, 1, 31, 32, 33, 63, 64, 65, 8127, 8128, 8129, 8159, 8160} {
		if got := expanded(t, key, "purpose", many); !bytes.Equal(got, all[:many]) {
			t.Errorf("Expand of %d bytes gave other ones, or %d", many, len(got))
		}
	}
}

func TestExpandOfKeysAndPurposes(t *testing.T) { // P2.2: the key as it is, whatever its length, and purposes of any bytes
	for _, n := range []int{0, 1, 32, 63, 64, 65, 1000} {
		for _, purpose := range []string{"", "a", "bartizan seal", "\x00\x01\xff\xfe", strings.Repeat("long ", 100)} {
			key := sample(n)
			want := output(key, purpose)[:100]
			if got := expanded(t, key, purpose, 100); !bytes.Equal(got, want) {
				t.Errorf("a key of %d bytes, purpose %q", n, purpose)
			}
		}
	}
	if !bytes.Equal(expanded(t, nil, "p", 40), expanded(t, []byte{}, "p", 40)) { // R2
		t.Error("a nil key is unlike an empty one")
	}
}

func TestExpandOfLongKey(t *testing.T) { // P2.2
	key := sample(1 << 20)
	digest := sha256.Sum256(key)
	if got := expanded(t, key, "p", 8160); !bytes.Equal(got, output(digest[:], "p")) {
		t.Error("a key of 2^20 bytes")
	}
}

func TestEqual(t *testing.T) { // P2.2
	for n := range 70 {
		a := sample(n)
		if !mac.Equal(a, a) || !mac.Equal(a, bytes.Clone(a)) {
			t.Errorf("%d bytes, and the same", n)
		}
		for i := range a {
			for bit := range 8 {
				b := bytes.Clone(a)
				b[i] ^= 1 << bit
				if mac.Equal(a, b) || mac.Equal(b, a) {
					t.Fatalf("%d bytes, unlike in bit %d of byte %d", n, bit, i)
				}
			}
		}
	}
}

func TestEqualOfSeveralUnlikeBytes(t *testing.T) { // P2.2: differences must not cancel each other out
	a := fill(7, 32)
	for i := range a {
		for j := range i {
			b := bytes.Clone(a)
			b[i] ^= 85
			b[j] ^= 85
			if mac.Equal(a, b) {
				t.Fatalf("bytes %d and %d are unlike", j, i)
			}
		}
	}
	if mac.Equal(fill(0, 256), fill(1, 256)) || mac.Equal([]byte("ab"), []byte("ba")) {
		t.Error("all bytes are unlike")
	}
}

func TestEqualOfUnlikeLengths(t *testing.T) { // P2.2: a beginning, and zero bytes behind it, are not the whole
	for n := range 70 {
		a := sample(n)
		for _, b := range [][]byte{append(bytes.Clone(a), 0), append(fill(0, 1), a...), append(bytes.Clone(a), fill(0, 256)...)} {
			if mac.Equal(a, b) || mac.Equal(b, a) {
				t.Errorf("%d bytes and %d", len(a), len(b))
			}
		}
	}
}

func TestEqualOfNoBytes(t *testing.T) { // P2.2, R2
	if !mac.Equal(nil, nil) || !mac.Equal(nil, []byte{}) || !mac.Equal([]byte{}, nil) || !mac.Equal([]byte{}, []byte{}) {
		t.Error("no bytes and no bytes")
	}
	if mac.Equal(nil, []byte{0}) || mac.Equal([]byte{0}, nil) {
		t.Error("no bytes and one")
	}
}

func TestUnlikeParts(t *testing.T) { // P2.3: every cut, at two places, with empty parts between
	for _, n := range []int{0, 20, 64, 65} {
		key, b := sample(n), sample(70)
		want := mac.Mac(key, b)
		for i := 0; i <= len(b); i++ {
			for j := i; j <= len(b); j++ {
				if mac.Mac(key, nil, b[:i], []byte{}, b[i:j], b[j:], nil) != want {
					t.Fatalf("a key of %d bytes, cut at %d and %d", n, i, j)
				}
			}
		}
	}
}

func TestEqualParts(t *testing.T) { // P2.3
	key, b := sample(40), sample(700)
	want := mac.Mac(key, b)
	for size := 1; size <= 200; size++ {
		var parts [][]byte
		for at := 0; at < len(b); at += size {
			parts = append(parts, b[at:min(at+size, len(b))])
		}
		if mac.Mac(key, parts...) != want {
			t.Errorf("parts of %d bytes", size)
		}
	}
}

func TestShorterExpandIsPrefix(t *testing.T) { // P2.3: every length
	for _, n := range []int{0, 32, 64, 65} {
		key := sample(n)
		longest := expanded(t, key, "prefix", 8160)
		if !bytes.Equal(longest, output(key, "prefix")) {
			t.Errorf("a key of %d bytes: 8160 bytes", n)
		}
		for many := range 300 {
			if got := expanded(t, key, "prefix", many); !bytes.Equal(got, longest[:many]) {
				t.Fatalf("a key of %d bytes: %d bytes", n, many)
			}
		}
		for many := 300; many < 8160; many += 131 {
			if got := expanded(t, key, "prefix", many); !bytes.Equal(got, longest[:many]) {
				t.Fatalf("a key of %d bytes: %d bytes", n, many)
			}
		}
	}
}

func TestPaddedKeys(t *testing.T) { // P2.3: every key of up to 64 bytes, with zero bytes up to 64
	data := sample(30)
	for n := 0; n <= 64; n++ {
		key := sample(n)
		want, wantKeys := mac.Mac(key, data), expanded(t, key, "padded", 40)
		for zeros := 0; n+zeros <= 64; zeros++ {
			padded := append(bytes.Clone(key), fill(0, zeros)...)
			if mac.Mac(padded, data) != want || mac.Extract(padded, data) != want {
				t.Fatalf("a key of %d bytes and %d zeros", n, zeros)
			}
			if !bytes.Equal(expanded(t, padded, "padded", 40), wantKeys) {
				t.Fatalf("Expand of a key of %d bytes and %d zeros", n, zeros)
			}
		}
		// One zero byte too many, and the key is digested: other codes.
		if over := append(bytes.Clone(key), fill(0, 65-n)...); mac.Mac(over, data) == want || mac.Mac(over, data) != code(over, data) {
			t.Errorf("a key of %d bytes, with zeros up to 65", n)
		}
	}
}

func TestArgumentsStay(t *testing.T) { // R3: what lies behind a slice's end, too
	for _, n := range []int{0, 1, 31, 32, 63, 64, 65, 100} {
		keyRoom, first, second := sample(n+200), sample(n+300), sample(n+400)
		key, a, b := keyRoom[:n], first[:n], second[:n]
		parts := [][]byte{a, b, nil}
		before := [][]byte{bytes.Clone(keyRoom), bytes.Clone(first), bytes.Clone(second)}
		purpose := string(a)
		mac.Mac(key, parts...)
		mac.Extract(key, a)
		mac.Extract(a, key)
		mac.Expand(key, purpose, 100)
		mac.Expand(key, purpose, 8161)
		mac.Equal(key, a)
		mac.Equal(a, b)
		if !bytes.Equal(keyRoom, before[0]) || !bytes.Equal(first, before[1]) || !bytes.Equal(second, before[2]) {
			t.Errorf("arguments of %d bytes were changed", n)
		}
		if len(parts) != 3 || !bytes.Equal(parts[0], before[1][:n]) || !bytes.Equal(parts[1], before[2][:n]) || parts[2] != nil {
			t.Errorf("the list of parts of %d bytes was changed", n)
		}
		if purpose != string(before[1][:n]) {
			t.Errorf("the purpose of %d bytes was changed", n)
		}
	}
}

func TestSharedArguments(t *testing.T) { // R3: one piece of memory as key and as parts
	for _, n := range []int{16, 64, 65} {
		b := sample(n)
		if mac.Mac(b, b, b[:8], b) != code(b, b, b[:8], b) || mac.Extract(b, b) != code(b, b) {
			t.Errorf("%d bytes as key and as parts", n)
		}
	}
}

func TestResultsAreTheCallers(t *testing.T) { // R3, R4
	key := sample(32)
	want := output(key, "own")
	for _, many := range []int{1, 32, 33, 100} {
		first, second := expanded(t, key, "own", many), expanded(t, key, "own", many)
		keyBefore := bytes.Clone(key)
		clear(first[:cap(first)])
		if !bytes.Equal(second, want[:many]) || !bytes.Equal(key, keyBefore) {
			t.Errorf("%d bytes: a result shares memory", many)
		}
		clear(second)
		if !bytes.Equal(expanded(t, key, "own", many), want[:many]) {
			t.Errorf("%d bytes: a changed result changed a later one", many)
		}
	}
	d := mac.Mac(key, want)
	clear(d[:])
	if mac.Mac(key, want) != code(key, want) {
		t.Error("a changed code changed a later one")
	}
}

func TestArgumentsAreNotKept(t *testing.T) { // R3
	for _, n := range []int{1, 32, 64, 65} {
		key, data := sample(n), sample(90)
		wantCode, wantKeys := code(key, data), output(key, "kept")[:70]
		got, keys := mac.Mac(key, data), expanded(t, key, "kept", 70)
		clear(key)
		clear(data)
		if got != wantCode || !bytes.Equal(keys, wantKeys) {
			t.Errorf("a key of %d bytes, changed behind the call", n)
		}
		if zeros := fill(0, n); mac.Mac(key, data) != code(zeros, fill(0, 90)) {
			t.Errorf("a key of %d bytes is remembered", n)
		}
	}
}

func TestSeveralGoroutines(t *testing.T) { // R5, on shared arguments
	key, data := sample(65), sample(500)
	want, wantKeys := code(key, data), output(key, "shared")
	var all sync.WaitGroup
	for i := range 8 {
		all.Go(func() {
			for n := range 50 {
				if mac.Mac(key, data[:n], data[n:]) != want || mac.Extract(key, data) != want {
					t.Errorf("goroutine %d, cut at %d", i, n)
				}
				if b, err := mac.Expand(key, "shared", 10*n); err != api.OK || !bytes.Equal(b, wantKeys[:10*n]) {
					t.Errorf("goroutine %d, %d bytes", i, 10*n)
				}
				if !mac.Equal(data, data) || mac.Equal(data[:n], data) {
					t.Errorf("goroutine %d, Equal", i)
				}
			}
		})
	}
	all.Wait()
}

func TestImports(t *testing.T) { // R6, and the map: mac imports api and sha
	files, err := filepath.Glob("*.go")
	if err != nil || len(files) == 0 {
		t.Fatal("no files", err)
	}
	for _, name := range files {
		if strings.HasSuffix(name, "_test.go") {
			continue
		}
		file, err := parser.ParseFile(token.NewFileSet(), name, nil, parser.ImportsOnly)
		if err != nil {
			t.Fatal(err)
		}
		for _, i := range file.Imports {
			if i.Path.Value != `"bartizan/api"` && i.Path.Value != `"bartizan/sha"` {
				t.Errorf("%s imports %s", name, i.Path.Value)
			}
		}
	}
}
