package sha_test

import (
	"bytes"
	"crypto/sha256"
	"encoding/hex"
	"math/rand"
	"strings"
	"sync"
	"testing"

	"bartizan/sha"
)

// published are digests of FIPS 180-4's examples, and of runs of the letter a whose lengths lie around the edges of the padding (by sha256sum).
func published() map[string]string {
	as := func(n int) string { return strings.Repeat("a", n) }
	return map[string]string{
		"":    "e3b0c44298fc1c149afbf4c8996fb92427ae41e4649b934ca495991b7852b855",
		"abc": "ba7816bf8f01cfea414140de5dae2223b00361a396177a9cb410ff61f20015ad",
		"abcdbcdecdefdefgefghfghighijhijkijkljklmklmnlmnomnopnopq":                                                         "248d6a61d20638b8e5c026930c3e6039a33ce45964ff2167f6ecedd419db06c1",
		"abcdefghbcdefghicdefghijdefghijkefghijklfghijklmghijklmnhijklmnoijklmnopjklmnopqklmnopqrlmnopqrsmnopqrstnopqrstu": "cf5b16a778af8380036ce59e7b0492370b249b11e8f07a51afac45037afee9d1",
		as(1):       "ca978112ca1bbdcafac231b39a23dc4da786eff8147c4e72b9807785afee48bb",
		as(55):      "9f4390f8d30c2dd92ec9f095b65e2b9ae9b0a925a5258e241c9f1e910f734318",
		as(56):      "b35439a4ac6f0948b6d6f9e3c6af0f5f590ce20f1bde7090ef7970686ec6738a",
		as(63):      "7d3e74a05d7db15bce4ad9ec0658ea98e3f06eeecf16b4c6fff2da457ddc2f34",
		as(64):      "ffe054fe7ae0cb6dc65c3af9b61d5209f439851db43d0ba5997337df154668eb",
		as(65):      "635361c48bb9eab14198e76ea8ab7f1a41685d6ad62aa9146d301d4f17eb0ae0",
		as(119):     "31eba51c313a5c08226adf18d4a359cfdfd8d2e816b13f4af952f7ea6584dcfb",
		as(120):     "2f3d335432c70b580af0e8e1b3674a7c020d683aa5f73aaaedfdc55af904c21c",
		as(127):     "c57e9278af78fa3cab38667bef4ce29d783787a2f731d4e12200270f0c32320a",
		as(128):     "6836cf13bac400e9105071cd6af47084dfacad4e5e302c94bfed24e013afb73e",
		as(129):     "c12cb024a2e5551cca0e08fce8f1c5e314555cc3fef6329ee994a3db752166ae",
		as(183):     "a88d44a2940a3a2fc363304926d263bf271afb562bab5640cb0e81f5e84320a3",
		as(184):     "8b1b7967cef5b2f2036b25c6a393e37bd774a7cbde7be79bb443d26bf0a90c86",
		as(1000000): "cdc76e5c9914fb9281a1c7e284d73e67f1809a48a497200e046d39ccc7112cd0",
	}
}

// sample is bytes of all values, without a short period.
func sample(n int) []byte {
	b := make([]byte, n)
	rand.New(rand.NewSource(int64(n))).Read(b)
	return b
}

func written(parts ...[]byte) *sha.Hash {
	h := sha.New()
	for _, p := range parts {
		h.Write(p)
	}
	return h
}

func TestPublishedDigests(t *testing.T) { // P1.1, P1
	for text, want := range published() {
		d := sha.Sum([]byte(text))
		if got := hex.EncodeToString(d[:]); got != want {
			t.Errorf("Sum of %d bytes: %s, want %s", len(text), got, want)
		}
		d = written([]byte(text)).Sum()
		if got := hex.EncodeToString(d[:]); got != want {
			t.Errorf("Write and Sum of %d bytes: %s, want %s", len(text), got, want)
		}
	}
}

func TestEveryLength(t *testing.T) { // P1.1: all places in a block at which an input may end
	for n := range 400 {
		b := sample(n)
		if sha.Sum(b) != sha256.Sum256(b) {
			t.Errorf("Sum of %d bytes", n)
		}
	}
}

func TestBytesOfOneValue(t *testing.T) { // P1.1: zeros and the padding's own byte are input like any other
	for _, v := range []byte{0, 1, 127, 128, 255} {
		for _, n := range []int{1, 55, 56, 64, 119, 120, 128} {
			b := bytes.Repeat([]byte{v}, n)
			if sha.Sum(b) != sha256.Sum256(b) {
				t.Errorf("Sum of %d bytes of %d", n, v)
			}
		}
	}
}

func TestNothingWritten(t *testing.T) { // P1.1, R2
	want := sha256.Sum256(nil)
	if sha.Sum(nil) != want || sha.Sum([]byte{}) != want {
		t.Error("Sum of no bytes")
	}
	if sha.New().Sum() != want {
		t.Error("New without a Write")
	}
	if written(nil, []byte{}, nil).Sum() != want {
		t.Error("Write of no bytes")
	}
}

func TestSumLeavesHash(t *testing.T) { // P1.1: Sum behind each Write, twice, at every length
	all := sample(300)
	h := sha.New()
	for n := range all {
		first := h.Sum()
		if want := sha256.Sum256(all[:n]); first != want {
			t.Fatalf("Sum behind %d bytes", n)
		}
		if h.Sum() != first {
			t.Fatalf("the second Sum behind %d bytes", n)
		}
		h.Write(all[n : n+1])
	}
}

func TestWriteBehindSum(t *testing.T) { // P1.1: at the edges of the padding, with more than a block to come
	for _, n := range []int{0, 1, 55, 56, 63, 64, 65, 119, 120, 128} {
		head, tail := sample(n), sample(150)
		h := written(head)
		h.Sum()
		h.Write(tail)
		if want := sha256.Sum256(append(bytes.Clone(head), tail...)); h.Sum() != want {
			t.Errorf("150 bytes behind Sum of %d", n)
		}
	}
}

func TestTwoParts(t *testing.T) { // P1.2: every cut of inputs of up to four blocks
	for _, n := range []int{0, 1, 55, 56, 63, 64, 65, 119, 120, 127, 128, 129, 256} {
		b := sample(n)
		want := sha256.Sum256(b)
		for cut := 0; cut <= n; cut++ {
			if written(b[:cut], b[cut:]).Sum() != want {
				t.Errorf("%d bytes, cut at %d", n, cut)
			}
		}
	}
}

func TestThreeParts(t *testing.T) { // P1.2, with empty parts between
	b := sample(140)
	want := sha256.Sum256(b)
	for i := 0; i <= len(b); i++ {
		for j := i; j <= len(b); j++ {
			if written(nil, b[:i], []byte{}, b[i:j], nil, b[j:], []byte{}).Sum() != want {
				t.Fatalf("cut at %d and %d", i, j)
			}
		}
	}
}

func TestEqualParts(t *testing.T) { // P1.2
	b := sample(1000)
	want := sha256.Sum256(b)
	for size := 1; size <= 200; size++ {
		h := sha.New()
		for at := 0; at < len(b); at += size {
			h.Write(b[at:min(at+size, len(b))])
		}
		if h.Sum() != want {
			t.Errorf("parts of %d bytes", size)
		}
	}
}

func TestUnlikeParts(t *testing.T) { // P1.2
	r := rand.New(rand.NewSource(1))
	for range 300 {
		b := sample(r.Intn(2000))
		h := sha.New()
		for rest := b; len(rest) > 0; {
			n := r.Intn(min(len(rest), 200) + 1)
			h.Write(rest[:n])
			rest = rest[n:]
			if r.Intn(4) == 0 {
				h.Sum()
			}
		}
		if h.Sum() != sha256.Sum256(b) {
			t.Fatalf("%d bytes in unlike parts", len(b))
		}
	}
}

func TestArgumentsStay(t *testing.T) { // R3: what lies behind a slice's end, too
	for _, n := range []int{0, 1, 55, 56, 63, 64, 65, 120, 128} {
		room := sample(n + 200)
		before := bytes.Clone(room)
		sha.Sum(room[:n])
		h := written(room[:n])
		h.Sum()
		h.Write(room[n : n+7])
		h.Sum()
		if !bytes.Equal(room, before) {
			t.Errorf("an argument of %d bytes was changed", n)
		}
	}
}

func TestArgumentsAreNotKept(t *testing.T) { // R3
	for _, n := range []int{1, 55, 56, 63, 64, 65, 120, 128} {
		b := sample(n)
		want := sha256.Sum256(b)
		wantTwice := sha256.Sum256(append(bytes.Clone(b), b...))
		again := bytes.Clone(b)
		whole := sha.Sum(b)
		h := written(b)
		clear(b)
		if whole != want || h.Sum() != want {
			t.Errorf("%d bytes, changed behind the call", n)
		}
		h.Write(again)
		clear(again)
		if h.Sum() != wantTwice {
			t.Errorf("%d bytes, changed behind the second Write", n)
		}
	}
}

func TestResultsAreTheCallers(t *testing.T) { // R3
	h := written([]byte("abc"))
	d := h.Sum()
	clear(d[:])
	if h.Sum() != sha256.Sum256([]byte("abc")) {
		t.Error("a changed result changed the Hash")
	}
}

func TestHashesAreApart(t *testing.T) { // R4: a Hash's digest hangs on its own calls alone
	x, y := sample(333), sample(222)
	a, b := sha.New(), sha.New()
	for i := 0; i < 333; i += 37 {
		a.Write(x[i : i+37])
		if i < 222 {
			b.Write(y[i:min(i+37, 222)])
		}
		sha.Sum(x[:i])
	}
	if a.Sum() != sha256.Sum256(x) || b.Sum() != sha256.Sum256(y) {
		t.Error("two at a time")
	}
}

func TestSeveralGoroutines(t *testing.T) { // R5
	var all sync.WaitGroup
	for i := range 8 {
		all.Go(func() {
			for n := range 100 {
				b := sample(100*i + n)
				want := sha256.Sum256(b)
				if sha.Sum(b) != want || written(b[:n/2], b[n/2:]).Sum() != want {
					t.Errorf("goroutine %d, %d bytes", i, len(b))
				}
			}
		})
	}
	all.Wait()
}

func TestLengthBeyond32Bits(t *testing.T) { // P1.1, R7: 2^29 bytes have 2^32 bits
	if testing.Short() {
		t.Skip("half a gigabyte")
	}
	part := make([]byte, 1<<20)
	h, want := sha.New(), sha256.New()
	for range 1 << 9 {
		h.Write(part)
		want.Write(part)
	}
	d := h.Sum()
	if !bytes.Equal(d[:], want.Sum(nil)) {
		t.Error("2^29 bytes")
	}
}

func TestWithoutNew(t *testing.T) { // P0: no panic; nothing was written to these
	want := sha256.Sum256(nil)
	var none *sha.Hash
	none.Write([]byte("abc"))
	if none.Sum() != want {
		t.Error("a nil Hash")
	}
	var zero sha.Hash
	if zero.Sum() != want {
		t.Error("a zero Hash")
	}
	zero.Write([]byte("abc"))
	if zero.Sum() != sha256.Sum256([]byte("abc")) {
		t.Error("a zero Hash, written to")
	}
}
