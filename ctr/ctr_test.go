package ctr_test

import (
	"bytes"
	library "crypto/aes"
	"crypto/cipher"
	"encoding/hex"
	"go/parser"
	"go/token"
	"math"
	"math/big"
	"math/rand"
	"path/filepath"
	"strings"
	"sync"
	"testing"

	"bartizan/aes"
	"bartizan/ctr"
)

const (
	zeros = "00000000000000000000000000000000"
	ones  = "ffffffffffffffffffffffffffffffff"
)

func bytesOf(t *testing.T, digits string) []byte {
	t.Helper()
	b, err := hex.DecodeString(digits)
	if err != nil {
		t.Fatal(err)
	}
	return b
}

func blockOf(t *testing.T, digits string) [16]byte {
	t.Helper()
	return [16]byte(bytesOf(t, digits))
}

// sample is bytes without a pattern, the same ones in each run.
func sample(n int) []byte {
	b := make([]byte, n)
	rand.New(rand.NewSource(int64(n))).Read(b)
	return b
}

// samples is n blocks without a pattern, the same ones in each run.
func samples(n int) [][16]byte {
	all := make([][16]byte, n)
	for i := range all {
		all[i] = [16]byte(sample(16 * n)[16*i:])
	}
	return all
}

// edges is counters from which an addition carries far.
func edges(t *testing.T) [][16]byte {
	t.Helper()
	var all [][16]byte
	for _, digits := range []string{
		zeros, ones,
		"fffffffffffffffffffffffffffffffe", "fffffffffffffffffffffffffffffff0", "ffffffffffffffffffffffffffffff00",
		"ffffffffffffffff0000000000000000", "ffffffffffffffff8000000000000000", "fffffffffffffffefffffffffffffffe",
		"0000000000000000ffffffffffffffff", "0000000000000000fffffffffffffffe", "000000000000000000000000ffffffff",
		"0000000000000000000000000000ffff", "000000000000000000000000000000ff", "0000000000000000ffffffff00000000",
		"7fffffffffffffffffffffffffffffff", "80000000000000000000000000000000", "000000000000000000000000000000fe",
		"0000000000000000000000ff00ffffff", "00ff00ff00ff00ff00ff00ff00ff00ff", "f0f1f2f3f4f5f6f7f8f9fafbfcfdfeff",
	} {
		all = append(all, blockOf(t, digits))
	}
	return all
}

// steps is numbers that Next may be asked to add.
func steps() []uint64 {
	return []uint64{
		0, 1, 2, 15, 16, 127, 128, 254, 255, 256, 257, 1<<16 - 1, 1 << 16, 1<<31 - 1, 1 << 31, 1<<32 - 1, 1 << 32, 1<<32 + 1,
		1<<56 - 1, 1 << 56, 1<<63 - 1, 1 << 63, 0xff00ff00ff00ff00, 0x00ff00ff00ff00ff, math.MaxUint64 - 1, math.MaxUint64,
	}
}

// later is the counter by the document's words: a number, the most significant byte first, modulo 2^128.
func later(at [16]byte, by uint64) [16]byte {
	number := new(big.Int).SetBytes(at[:])
	number.Add(number, new(big.Int).SetUint64(by))
	number.Mod(number, new(big.Int).Lsh(big.NewInt(1), 128))
	var next [16]byte
	number.FillBytes(next[:])
	return next
}

// stream is the key stream by the document's words: the encryption of the counter, of the next one, and so on.
func stream(key, at [16]byte, many int) []byte {
	var all []byte
	for n := uint64(0); len(all) < many; n++ {
		block := aes.Encrypt(key, later(at, n))
		all = append(all, block[:]...)
	}
	return all[:many]
}

// flipped is what the library says that Flip must answer.
func flipped(t *testing.T, key, at [16]byte, b []byte) []byte {
	t.Helper()
	block, err := library.NewCipher(key[:])
	if err != nil {
		t.Fatal(err)
	}
	out := make([]byte, len(b))
	cipher.NewCTR(block, at[:]).XORKeyStream(out, b)
	return out
}

func xor(a, b []byte) []byte {
	out := make([]byte, len(a))
	for i := range a {
		out[i] = a[i] ^ b[i]
	}
	return out
}

func TestNextOfExamples(t *testing.T) { // P4.1: by 0, 1 and 2^64 - 1; over the end of a byte and of the counter; the chapter's example
	for _, c := range []struct {
		at   string
		by   uint64
		want string
	}{
		{ones, 1, zeros},
		{ones, 0, ones},
		{zeros, 0, zeros},
		{zeros, 1, "00000000000000000000000000000001"},
		{zeros, 256, "00000000000000000000000000000100"},
		{zeros, 0x0123456789abcdef, "00000000000000000123456789abcdef"},
		{zeros, math.MaxUint64, "0000000000000000ffffffffffffffff"},
		{"00000000000000000000000000000001", math.MaxUint64, "00000000000000010000000000000000"},
		{"000000000000000000000000000000ff", 1, "00000000000000000000000000000100"},
		{"0000000000000000000000000000ffff", 1, "00000000000000000000000000010000"},
		{"000000000000000000000000ffffffff", 1, "00000000000000000000000100000000"},
		{"0000000000000000ffffffffffffffff", 1, "00000000000000010000000000000000"},
		{"0000000000000000ffffffffffffffff", math.MaxUint64, "0000000000000001fffffffffffffffe"},
		{"00ffffffffffffffffffffffffffffff", 1, "01000000000000000000000000000000"},
		{"fffffffffffffffffffffffffffffffe", 1, ones},
		{"fffffffffffffffffffffffffffffffe", 2, zeros},
		{"fffffffffffffffffffffffffffffffe", 5, "00000000000000000000000000000003"},
		{ones, math.MaxUint64, "0000000000000000fffffffffffffffe"},
		{"ffffffffffffffff0000000000000001", math.MaxUint64, zeros},
		{"f0f1f2f3f4f5f6f7f8f9fafbfcfdfeff", 1, "f0f1f2f3f4f5f6f7f8f9fafbfcfdff00"},
	} {
		got := ctr.Next(blockOf(t, c.at), c.by)
		if hex.EncodeToString(got[:]) != c.want {
			t.Errorf("Next of %s by %d: %x, want %s", c.at, c.by, got, c.want)
		}
	}
}

func TestNextByTheWords(t *testing.T) { // P4.1
	by := append(steps(), 0)
	r := rand.New(rand.NewSource(4))
	for _, at := range append(edges(t), samples(200)...) {
		by[len(by)-1] = r.Uint64()
		for _, n := range by {
			if got, want := ctr.Next(at, n), later(at, n); got != want {
				t.Errorf("Next of %x by %d: %x, want %x", at, n, got, want)
			}
		}
	}
}

func TestNextStepByStep(t *testing.T) { // P4.1: through two bytes, and over the end of the counter
	for _, at := range [][16]byte{blockOf(t, zeros), blockOf(t, "ffffffffffffffffffffffffffff8000")} {
		step := at
		for n := range uint64(70000) {
			if step != ctr.Next(at, n) || step != later(at, n) {
				t.Fatalf("%x, and %d more: %x one by one, %x at once", at, n, step, ctr.Next(at, n))
			}
			step = ctr.Next(step, 1)
		}
	}
}

func TestNextTwice(t *testing.T) { // P4.1: by two numbers, in either order
	for _, at := range append(edges(t), samples(20)...) {
		for _, a := range steps() {
			for _, b := range steps() {
				if got, want := ctr.Next(ctr.Next(at, a), b), later(later(at, a), b); got != want || got != ctr.Next(ctr.Next(at, b), a) {
					t.Fatalf("%x by %d and by %d: %x, want %x", at, a, b, got, want)
				}
			}
		}
	}
}

func TestPublishedBytes(t *testing.T) { // P4.1, P1: SP 800-38A, F.5.1 and F.5.2; RFC 3686, section 6, test vectors 1 to 3
	for _, c := range []struct{ key, at, plain, want string }{
		{
			"2b7e151628aed2a6abf7158809cf4f3c", "f0f1f2f3f4f5f6f7f8f9fafbfcfdfeff",
			"6bc1bee22e409f96e93d7e117393172aae2d8a571e03ac9c9eb76fac45af8e5130c81c46a35ce411e5fbc1191a0a52eff69f2445df4f9b17ad2b417be66c3710",
			"874d6191b620e3261bef6864990db6ce9806f66b7970fdff8617187bb9fffdff5ae4df3edbd5d35e5b4f09020db03eab1e031dda2fbe03d1792170a0f3009cee",
		},
		{
			"ae6852f8121067cc4bf7a5765577f39e", "00000030000000000000000000000001",
			"53696e676c6520626c6f636b206d7367",
			"e4095d4fb7a7b3792d6175a3261311b8",
		},
		{
			"7e24067817fae0d743d6ce1f32539163", "006cb6dbc0543b59da48d90b00000001",
			"000102030405060708090a0b0c0d0e0f101112131415161718191a1b1c1d1e1f",
			"5104a106168a72d9790d41ee8edad388eb2e1efc46da57c8fce630df9141be28",
		},
		{
			"7691be035e5020a8ac6e618529f9a0dc", "00e0017b27777f3f4a1786f000000001",
			"000102030405060708090a0b0c0d0e0f101112131415161718191a1b1c1d1e1f20212223",
			"c1cf48a89f2ffdd9cf4652e9efdb72d74540a42bde6d7836d59a5ceaaef3105325b2072f",
		},
	} {
		key, at := blockOf(t, c.key), blockOf(t, c.at)
		if got := hex.EncodeToString(ctr.Flip(key, at, bytesOf(t, c.plain))); got != c.want {
			t.Errorf("key %s, counter %s: %s, want %s", c.key, c.at, got, c.want)
		}
		if got := hex.EncodeToString(ctr.Flip(key, at, bytesOf(t, c.want))); got != c.plain {
			t.Errorf("key %s, counter %s: back as %s", c.key, c.at, got)
		}
	}
}

func TestPublishedCounters(t *testing.T) { // P4.1: the input and output blocks of SP 800-38A, F.5.1
	key, at := blockOf(t, "2b7e151628aed2a6abf7158809cf4f3c"), blockOf(t, "f0f1f2f3f4f5f6f7f8f9fafbfcfdfeff")
	for n, want := range [][2]string{
		{"f0f1f2f3f4f5f6f7f8f9fafbfcfdfeff", "ec8cdf7398607cb0f2d21675ea9ea1e4"},
		{"f0f1f2f3f4f5f6f7f8f9fafbfcfdff00", "362b7c3c6773516318a077d7fc5073ae"},
		{"f0f1f2f3f4f5f6f7f8f9fafbfcfdff01", "6a2cc3787889374fbeb4c81b17ba6c44"},
		{"f0f1f2f3f4f5f6f7f8f9fafbfcfdff02", "e89c399ff0f198c6d40a31db156cabfe"},
	} {
		counter := ctr.Next(at, uint64(n))
		if hex.EncodeToString(counter[:]) != want[0] {
			t.Errorf("counter %d: %x, want %s", n, counter, want[0])
		}
		if got := hex.EncodeToString(ctr.Flip(key, counter, make([]byte, 16))); got != want[1] {
			t.Errorf("key stream of counter %d: %s, want %s", n, got, want[1])
		}
	}
}

func TestFlipOfNoBytes(t *testing.T) { // P4.1, P0, R2: nil, empty, and empty with bytes behind
	for i, key := range append(samples(3), blockOf(t, zeros), blockOf(t, ones)) {
		for j, b := range [][]byte{nil, {}, make([]byte, 0, 16), sample(32)[16:16]} {
			if got := ctr.Flip(key, key, b); len(got) != 0 {
				t.Errorf("key %d, bytes %d: %x", i, j, got)
			}
		}
	}
}

func TestFlipOfAllLengths(t *testing.T) { // P4.1: fewer bytes than a block, a whole block, one byte more, and several blocks
	keys := samples(3)
	for i, at := range append(edges(t), samples(4)...) {
		for n := range 100 {
			key, b := keys[i%len(keys)], sample(n)
			got := ctr.Flip(key, at, b)
			if !bytes.Equal(got, xor(b, stream(key, at, n))) {
				t.Fatalf("%d bytes from counter %x: %x by the words", n, at, got)
			}
			if !bytes.Equal(got, flipped(t, key, at, b)) {
				t.Fatalf("%d bytes from counter %x: %x by the library", n, at, got)
			}
		}
	}
}

func TestFlipOverTheEnd(t *testing.T) { // P4.1: behind the counter of bytes 255 comes that of bytes 0
	key, last := samples(1)[0], blockOf(t, ones)
	for before := range 4 {
		at := last
		at[15] -= byte(before)
		var want []byte
		for i := range before + 1 {
			counter := last
			counter[15] -= byte(before - i)
			block := aes.Encrypt(key, counter)
			want = append(want, block[:]...)
		}
		for i := range 3 {
			block := aes.Encrypt(key, [16]byte{15: byte(i)})
			want = append(want, block[:]...)
		}
		if got := ctr.Flip(key, at, make([]byte, len(want))); !bytes.Equal(got, want) {
			t.Errorf("%d blocks before the last one: %x, want %x", before, got, want)
		}
	}
}

func TestFlipOfManyBytes(t *testing.T) { // P4.1, R7: the counter's third byte from behind changes, too
	for _, at := range [][16]byte{blockOf(t, zeros), blockOf(t, "fffffffffffffffffffffffffffff000")} {
		key, b := samples(1)[0], sample(1<<20+16*300+5)
		if !bytes.Equal(ctr.Flip(key, at, b), flipped(t, key, at, b)) {
			t.Errorf("%d bytes from counter %x", len(b), at)
		}
	}
}

func TestFlipOfKeysAndCounters(t *testing.T) { // P4.1: each bit of both counts; the library tells how
	key, at := samples(2)[0], samples(2)[1]
	b := sample(40)
	for i := range 128 {
		otherKey, otherAt := key, at
		otherKey[i/8] ^= 1 << (i % 8)
		otherAt[i/8] ^= 1 << (i % 8)
		for _, c := range [][2][16]byte{{otherKey, at}, {key, otherAt}} {
			got := ctr.Flip(c[0], c[1], b)
			if !bytes.Equal(got, flipped(t, c[0], c[1], b)) || bytes.Equal(got, ctr.Flip(key, at, b)) {
				t.Errorf("key %x, counter %x: %x", c[0], c[1], got)
			}
		}
	}
}

func TestFlipTwice(t *testing.T) { // P4.2
	keys := samples(5)
	for i, at := range append(edges(t), samples(10)...) {
		for _, n := range []int{0, 1, 2, 15, 16, 17, 31, 32, 33, 48, 64, 100, 1000} {
			key, b := keys[i%len(keys)], sample(n)
			if back := ctr.Flip(key, at, ctr.Flip(key, at, b)); !bytes.Equal(back, b) {
				t.Errorf("%d bytes from counter %x: back as %x", n, at, back)
			}
		}
	}
}

func TestFlipOfParts(t *testing.T) { // P4.2: any part from a block boundary on, by its own counter
	key, b := samples(1)[0], sample(16*5+7)
	for _, at := range append(edges(t), samples(5)...) {
		whole := ctr.Flip(key, at, b)
		for first := 0; first <= len(b); first += 16 {
			own := ctr.Next(at, uint64(first/16))
			for last := first; last <= len(b); last++ {
				if got := ctr.Flip(key, own, b[first:last]); !bytes.Equal(got, whole[first:last]) {
					t.Fatalf("counter %x: bytes %d to %d: %x, want %x", at, first, last, got, whole[first:last])
				}
			}
		}
	}
}

func TestFlipOfInvertedBits(t *testing.T) { // P4.2: each bit of the input inverts that bit of the output, and no other
	for i, at := range append(edges(t)[:3], samples(2)...) {
		for _, n := range []int{1, 16, 17, 53} {
			key, b := samples(5)[i], sample(n)
			want := ctr.Flip(key, at, b)
			for bit := range 8 * n {
				b[bit/8] ^= 1 << (bit % 8)
				want[bit/8] ^= 1 << (bit % 8)
				if got := ctr.Flip(key, at, b); !bytes.Equal(got, want) {
					t.Fatalf("bit %d of %d bytes: %x, want %x", bit, n, got, want)
				}
				b[bit/8] ^= 1 << (bit % 8)
				want[bit/8] ^= 1 << (bit % 8)
			}
		}
	}
}

func TestArgumentsStay(t *testing.T) { // R3: the bytes, and those behind them in the same memory
	for _, n := range []int{0, 1, 15, 16, 17, 40} {
		memory, before := sample(80), sample(80)
		key, at := samples(2)[0], samples(2)[1]
		keyBefore, atBefore := key, at
		ctr.Flip(key, at, memory[8:8+n])
		ctr.Next(at, math.MaxUint64)
		if !bytes.Equal(memory, before) || key != keyBefore || at != atBefore {
			t.Errorf("%d bytes: an argument was changed", n)
		}
	}
}

func TestResultsAreTheCallers(t *testing.T) { // R3: no memory is shared with the argument, nor between two results
	key, at := samples(2)[0], samples(2)[1]
	for _, n := range []int{1, 15, 16, 17, 40} {
		b := sample(n)
		want := flipped(t, key, at, b)
		first, second := ctr.Flip(key, at, b), ctr.Flip(key, at, b)
		clear(first[:cap(first)])
		if !bytes.Equal(b, sample(n)) || !bytes.Equal(second, want) {
			t.Errorf("%d bytes: a changed result changed its argument, or another result", n)
		}
		clear(b)
		if !bytes.Equal(second, want) {
			t.Errorf("%d bytes: a changed argument changed a result", n)
		}
		if !bytes.Equal(ctr.Flip(key, at, sample(n)), want) {
			t.Errorf("%d bytes: a changed result changed a later one", n)
		}
	}
}

func TestCallsAreApart(t *testing.T) { // R4: whatever was called before, with other keys, counters and bytes
	keys, counters := samples(12), samples(13)
	for i, key := range keys {
		at, b := counters[i], sample(9*i)
		want, wantNext := ctr.Flip(key, at, b), ctr.Next(at, uint64(i))
		for j, other := range keys {
			ctr.Flip(other, counters[j], sample(40+j))
			ctr.Flip(key, counters[j], b)
			ctr.Flip(other, at, b)
			ctr.Next(counters[j], math.MaxUint64)
			if !bytes.Equal(ctr.Flip(key, at, b), want) || ctr.Next(at, uint64(i)) != wantNext {
				t.Fatalf("call %d behind call %d", i, j)
			}
		}
	}
}

func TestSeveralGoroutines(t *testing.T) { // R5: also on the same bytes
	key, b := samples(1)[0], sample(300)
	var group sync.WaitGroup
	for i, at := range samples(8) {
		want := flipped(t, key, at, b)
		group.Go(func() {
			for n := range uint64(100) {
				if !bytes.Equal(ctr.Flip(key, at, b), want) || ctr.Next(at, n) != later(at, n) {
					t.Errorf("goroutine %d, call %d", i, n)
				}
			}
		})
	}
	group.Wait()
}

func TestImports(t *testing.T) { // R6, and the map: ctr imports aes alone
	files, err := filepath.Glob("*.go")
	if err != nil || len(files) == 0 {
		t.Fatal("no files", err)
	}
	for _, name := range files {
		if strings.HasSuffix(name, "_test.go") {
			continue
		}
		file, err := parser.ParseFile(token.NewFileSet(), name, nil, parser.ImportsOnly)
		if err != nil {
			t.Fatal(err)
		}
		for _, i := range file.Imports {
			if i.Path.Value != `"bartizan/aes"` {
				t.Errorf("%s imports %s", name, i.Path.Value)
			}
		}
	}
}
