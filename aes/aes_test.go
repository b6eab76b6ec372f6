package aes_test

import (
	library "crypto/aes"
	"encoding/hex"
	"go/parser"
	"go/token"
	"math/rand"
	"path/filepath"
	"strings"
	"sync"
	"testing"

	"bartizan/aes"
)

// publishedBox is figure 7 of FIPS 197, row by row.
const publishedBox = "" +
	"637c777bf26b6fc53001672bfed7ab76" +
	"ca82c97dfa5947f0add4a2af9ca472c0" +
	"b7fd9326363ff7cc34a5e5f171d83115" +
	"04c723c31896059a071280e2eb27b275" +
	"09832c1a1b6e5aa0523bd6b329e32f84" +
	"53d100ed20fcb15b6acbbe394a4c58cf" +
	"d0efaafb434d338545f9027f503c9fa8" +
	"51a3408f929d38f5bcb6da2110fff3d2" +
	"cd0c13ec5f974417c4a77e3d645d1973" +
	"60814fdc222a908846eeb814de5e0bdb" +
	"e0323a0a4906245cc2d3ac629195e479" +
	"e7c8376d8dd54ea96c56f4ea657aae08" +
	"ba78252e1ca6b4c6e8dd741f4bbd8b8a" +
	"703eb5664803f60e613557b986c11d9e" +
	"e1f8981169d98e949b1e87e9ce5528df" +
	"8ca1890dbfe6426841992d0fb054bb16"

func bytesOf(t *testing.T, digits string) []byte {
	t.Helper()
	b, err := hex.DecodeString(digits)
	if err != nil {
		t.Fatal(err)
	}
	return b
}

func blockOf(t *testing.T, digits string) [16]byte {
	t.Helper()
	return [16]byte(bytesOf(t, digits))
}

func fill(value byte) [16]byte {
	var b [16]byte
	for i := range b {
		b[i] = value
	}
	return b
}

// samples is n blocks without a pattern, the same ones in each run.
func samples(n int) [][16]byte {
	r := rand.New(rand.NewSource(int64(n)))
	all := make([][16]byte, n)
	for i := range all {
		r.Read(all[i][:])
	}
	return all
}

// product is the product by the document's words: the product of the polynomials, and what is left of it modulo 283.
func product(a, b byte) byte {
	var p int
	for i := range 8 {
		if b>>i&1 == 1 {
			p ^= int(a) << i
		}
	}
	for i := 14; i >= 8; i-- {
		if p>>i&1 == 1 {
			p ^= 283 << (i - 8)
		}
	}
	return byte(p)
}

// boxOf is the S-box value by the document's words.
func boxOf(b byte) byte {
	var inverse, value byte
	for r := range 256 {
		if product(b, byte(r)) == 1 {
			inverse = byte(r)
		}
	}
	for i := range 8 {
		bit := 99 >> i & 1
		for _, step := range []int{0, 4, 5, 6, 7} {
			bit ^= int(inverse) >> ((i + step) % 8) & 1
		}
		value |= byte(bit << i)
	}
	return value
}

// keysOf is the round keys by the document's words, column by column.
func keysOf(key [16]byte) [11][16]byte {
	keys := [11][16]byte{key}
	power := byte(1)
	for n := 1; n <= 10; n++ {
		for c := range 4 {
			for r := range 4 {
				left := keys[n][max(4*c-4, 0)+r]
				if c == 0 {
					left = boxOf(keys[n-1][12+(r+1)%4])
					if r == 0 {
						left ^= power
					}
				}
				keys[n][4*c+r] = keys[n-1][4*c+r] ^ left
			}
		}
		power = product(power, 2)
	}
	return keys
}

// encrypted is what the library says that Encrypt must answer.
func encrypted(t *testing.T, key, block [16]byte) [16]byte {
	t.Helper()
	cipher, err := library.NewCipher(key[:])
	if err != nil {
		t.Fatal(err)
	}
	var out [16]byte
	cipher.Encrypt(out[:], block[:])
	return out
}

func TestTimesOfAllPairs(t *testing.T) { // P3.1
	for a := range 256 {
		for b := range 256 {
			if got, want := aes.Times(byte(a), byte(b)), product(byte(a), byte(b)); got != want {
				t.Fatalf("Times of %d and %d: %d, want %d", a, b, got, want)
			}
		}
	}
}

func TestTimesOfPublishedPairs(t *testing.T) { // P3.1: the chapter's example, those of FIPS 197 (section 4.2), and the edges
	for _, c := range [][3]byte{
		{2, 128, 27},
		{0x57, 0x83, 0xc1}, {0x57, 0x13, 0xfe}, {0x57, 0x02, 0xae}, {0x57, 0x04, 0x47}, {0x57, 0x08, 0x8e}, {0x57, 0x10, 0x07},
		{0, 0, 0}, {1, 1, 1}, {0, 255, 0}, {1, 255, 255}, {2, 255, 0xe5}, {255, 255, 0x13},
	} {
		if got := aes.Times(c[0], c[1]); got != c[2] {
			t.Errorf("Times of %d and %d: %d, want %d", c[0], c[1], got, c[2])
		}
	}
	for a := range 256 {
		b := byte(a)
		if aes.Times(b, 0) != 0 || aes.Times(0, b) != 0 || aes.Times(b, 1) != b || aes.Times(1, b) != b {
			t.Errorf("%d and 0 or 1", a)
		}
	}
}

func TestBoxOfAllBytes(t *testing.T) { // P3.1, P1
	for b, want := range bytesOf(t, publishedBox) {
		if got := aes.Box(byte(b)); got != want || got != boxOf(byte(b)) {
			t.Errorf("Box of %d: %d, want %d as published, %d by the words", b, got, want, boxOf(byte(b)))
		}
	}
	if aes.Box(0) != 99 || aes.Box(1) != 124 || aes.Box(0x53) != 0xed || aes.Box(255) != 22 {
		t.Error("the chapter's example, that of FIPS 197, or an edge")
	}
}

func TestBoxOfInverse(t *testing.T) { // P3.1: by the program's own product
	for b := range 256 {
		for r := range 256 {
			if aes.Times(byte(b), byte(r)) != 1 {
				continue
			}
			r := byte(r)
			sum := r ^ (r<<1 | r>>7) ^ (r<<2 | r>>6) ^ (r<<3 | r>>5) ^ (r<<4 | r>>4)
			if aes.Box(byte(b)) != sum^99 {
				t.Errorf("Box of %d, with the inverse %d", b, r)
			}
		}
	}
}

func TestPublishedKeys(t *testing.T) { // P3.2, P1: FIPS 197, appendices A.1 and C.1; keys of zero bytes and of bytes 255
	for _, want := range [][11]string{
		{
			"2b7e151628aed2a6abf7158809cf4f3c", "a0fafe1788542cb123a339392a6c7605", "f2c295f27a96b9435935807a7359f67f",
			"3d80477d4716fe3e1e237e446d7a883b", "ef44a541a8525b7fb671253bdb0bad00", "d4d1c6f87c839d87caf2b8bc11f915bc",
			"6d88a37a110b3efddbf98641ca0093fd", "4e54f70e5f5fc9f384a64fb24ea6dc4f", "ead27321b58dbad2312bf5607f8d292f",
			"ac7766f319fadc2128d12941575c006e", "d014f9a8c9ee2589e13f0cc8b6630ca6",
		},
		{
			"000102030405060708090a0b0c0d0e0f", "d6aa74fdd2af72fadaa678f1d6ab76fe", "b692cf0b643dbdf1be9bc5006830b3fe",
			"b6ff744ed2c2c9bf6c590cbf0469bf41", "47f7f7bc95353e03f96c32bcfd058dfd", "3caaa3e8a99f9deb50f3af57adf622aa",
			"5e390f7df7a69296a7553dc10aa31f6b", "14f9701ae35fe28c440adf4d4ea9c026", "47438735a41c65b9e016baf4aebf7ad2",
			"549932d1f08557681093ed9cbe2c974e", "13111d7fe3944a17f307a78b4d2b30c5",
		},
		{
			"00000000000000000000000000000000", "62636363626363636263636362636363", "9b9898c9f9fbfbaa9b9898c9f9fbfbaa",
			"90973450696ccffaf2f457330b0fac99", "ee06da7b876a1581759e42b27e91ee2b", "7f2e2b88f8443e098dda7cbbf34b9290",
			"ec614b851425758c99ff09376ab49ba7", "217517873550620bacaf6b3cc61bf09b", "0ef903333ba9613897060a04511dfa9f",
			"b1d4d8e28a7db9da1d7bb3de4c664941", "b4ef5bcb3e92e21123e951cf6f8f188e",
		},
		{
			"ffffffffffffffffffffffffffffffff", "e8e9e9e917161616e8e9e9e917161616", "adaeae19bab8b80f525151e6454747f0",
			"090e2277b3b69a78e1e7cb9ea4a08c6e", "e16abd3e52dc2746b33becd8179b60b6", "e5baf3ceb766d488045d385013c658e6",
			"71d07db3c6b6a93bc2eb916bd12dc98d", "e90d208d2fbb89b6ed5018dd3c7dd150", "96337366b988fad054d8e20d68a5335d",
			"8bf03f233278c5f366a027fe0e0514a3", "d60a3588e472f07b82d2d7858cd7c326",
		},
	} {
		keys := aes.Keys(blockOf(t, want[0]))
		for n := range want {
			if got := hex.EncodeToString(keys[n][:]); got != want[n] {
				t.Errorf("key %s: round key %d: %s, want %s", want[0], n, got, want[n])
			}
		}
	}
}

func TestKeysByTheWords(t *testing.T) { // P3.2
	all := append(samples(60), fill(0), fill(255), fill(1), fill(128))
	for i := range 16 { // one byte, in each place
		var key [16]byte
		key[i] = 255
		all = append(all, key)
	}
	for _, key := range all {
		if aes.Keys(key) != keysOf(key) {
			t.Errorf("Keys of %x", key)
		}
	}
}

func TestPublishedBlocks(t *testing.T) { // P3.2, P1: FIPS 197, appendices B and C.1; zero bytes and bytes 255; SP 800-38A, F.1.1
	const zeros, ones = "00000000000000000000000000000000", "ffffffffffffffffffffffffffffffff"
	for _, c := range [][3]string{
		{"2b7e151628aed2a6abf7158809cf4f3c", "3243f6a8885a308d313198a2e0370734", "3925841d02dc09fbdc118597196a0b32"},
		{"000102030405060708090a0b0c0d0e0f", "00112233445566778899aabbccddeeff", "69c4e0d86a7b0430d8cdb78070b4c55a"},
		{zeros, zeros, "66e94bd4ef8a2c3b884cfa59ca342b2e"},
		{zeros, ones, "3f5b8cc9ea855a0afa7347d23e8d664e"},
		{ones, zeros, "a1f6258c877d5fcd8964484538bfc92c"},
		{ones, ones, "bcbf217cb280cf30b2517052193ab979"},
		{"2b7e151628aed2a6abf7158809cf4f3c", "6bc1bee22e409f96e93d7e117393172a", "3ad77bb40d7a3660a89ecaf32466ef97"},
		{"2b7e151628aed2a6abf7158809cf4f3c", "ae2d8a571e03ac9c9eb76fac45af8e51", "f5d3d58503b9699de785895a96fdbaaf"},
		{"2b7e151628aed2a6abf7158809cf4f3c", "30c81c46a35ce411e5fbc1191a0a52ef", "43b1cd7f598ece23881b00e3ed030688"},
		{"2b7e151628aed2a6abf7158809cf4f3c", "f69f2445df4f9b17ad2b417be66c3710", "7b0c785e27e8ad3f8223207104725dd4"},
	} {
		got := aes.Encrypt(blockOf(t, c[0]), blockOf(t, c[1]))
		if hex.EncodeToString(got[:]) != c[2] {
			t.Errorf("key %s, block %s: %x, want %s", c[0], c[1], got, c[2])
		}
	}
}

func TestBlocksByTheLibrary(t *testing.T) { // P3.2, P1
	all := samples(2000)
	for i := 0; i < len(all); i += 2 {
		if key, block := all[i], all[i+1]; aes.Encrypt(key, block) != encrypted(t, key, block) {
			t.Fatalf("key %x, block %x", key, block)
		}
	}
}

func TestBlocksOfSingleBits(t *testing.T) { // P3.2: each bit of the key and of the block, alone and left out
	for _, ground := range []byte{0, 255} {
		even := fill(ground)
		for i := range 128 {
			turned := even
			turned[i/8] ^= 1 << (i % 8)
			if aes.Encrypt(turned, even) != encrypted(t, turned, even) || aes.Encrypt(even, turned) != encrypted(t, even, turned) {
				t.Errorf("bit %d, among bytes %d", i, ground)
			}
		}
	}
}

func TestBlocksOfBytesOfOneValue(t *testing.T) { // P3.2
	for v := range 256 {
		b := fill(byte(v))
		if aes.Encrypt(b, b) != encrypted(t, b, b) || aes.Encrypt(fill(0), b) != encrypted(t, fill(0), b) {
			t.Errorf("bytes %d", v)
		}
	}
}

func TestChain(t *testing.T) { // P3.2: each result is the next block, and now and then the key
	var key, block [16]byte
	for n := range 2000 {
		next := aes.Encrypt(key, block)
		if next != encrypted(t, key, block) {
			t.Fatalf("link %d: key %x, block %x", n, key, block)
		}
		if n%10 == 9 {
			key = next
		}
		block = next
	}
}

func TestTimesEitherWay(t *testing.T) { // P3.3
	for a := range 256 {
		for b := range a {
			if aes.Times(byte(a), byte(b)) != aes.Times(byte(b), byte(a)) {
				t.Fatalf("%d and %d", a, b)
			}
		}
	}
}

func TestTimesOverSums(t *testing.T) { // P3.3: of all three bytes
	for a := range 256 {
		var row [256]byte
		for b := range row {
			row[b] = aes.Times(byte(a), byte(b))
		}
		for b := range row {
			for c := range row {
				if row[b^c] != row[b]^row[c] {
					t.Fatalf("%d times the sum of %d and %d", a, b, c)
				}
			}
		}
	}
}

func TestUnlikeBoxes(t *testing.T) { // P3.3
	seen := map[byte]int{}
	for b := range 256 {
		value := aes.Box(byte(b))
		if first, twice := seen[value]; twice {
			t.Errorf("Box of %d and of %d: %d", first, b, value)
		}
		seen[value] = b
	}
}

func TestUnlikeBlocks(t *testing.T) { // P3.3: neighbours of a block, by every value of every byte, and others
	for _, key := range append(samples(3), fill(0), fill(255)) {
		blocks := append(samples(3000), fill(0))
		for i := range 16 {
			for v := 1; v < 256; v++ {
				var near [16]byte
				near[i] = byte(v)
				blocks = append(blocks, near)
			}
		}
		seen := map[[16]byte][16]byte{}
		for _, block := range blocks {
			out := aes.Encrypt(key, block)
			if first, twice := seen[out]; twice {
				t.Fatalf("key %x: blocks %x and %x: %x", key, first, block, out)
			}
			seen[out] = block
		}
	}
}

func TestBlocksComeBack(t *testing.T) { // P3.3: what can be decrypted was of one block alone
	all := samples(600)
	for i := 0; i < len(all); i += 2 {
		cipher, err := library.NewCipher(all[i][:])
		if err != nil {
			t.Fatal(err)
		}
		out := aes.Encrypt(all[i], all[i+1])
		cipher.Decrypt(out[:], out[:])
		if out != all[i+1] {
			t.Fatalf("key %x, block %x: back as %x", all[i], all[i+1], out)
		}
	}
}

func TestArgumentsStay(t *testing.T) { // R3: also where one block is key and block
	for _, key := range append(samples(20), fill(0), fill(255)) {
		block := fill(7)
		keyBefore, blockBefore := key, block
		aes.Keys(key)
		aes.Encrypt(key, block)
		aes.Encrypt(key, key)
		aes.Encrypt(block, block)
		if key != keyBefore || block != blockBefore {
			t.Errorf("the key %x or its block was changed", keyBefore)
		}
	}
}

func TestResultsAreTheCallers(t *testing.T) { // R3
	key, block := samples(2)[0], samples(2)[1]
	keys, out := aes.Keys(key), aes.Encrypt(key, block)
	clear(keys[:])
	clear(out[:])
	if aes.Keys(key) != keysOf(key) || aes.Encrypt(key, block) != encrypted(t, key, block) {
		t.Error("a changed result changed a later one")
	}
}

func TestCallsAreApart(t *testing.T) { // R4: whatever was called before, with other keys and blocks
	all := samples(40)
	keys, blocks := all[:20], all[20:]
	for i, key := range keys {
		wantKeys, wantBlock := aes.Keys(key), aes.Encrypt(key, blocks[i])
		wantBox, wantTimes := aes.Box(key[0]), aes.Times(key[0], key[1])
		for j, other := range keys {
			aes.Encrypt(other, blocks[j])
			aes.Keys(other)
			aes.Box(other[0])
			aes.Times(other[0], other[1])
			if aes.Encrypt(key, blocks[i]) != wantBlock || aes.Keys(key) != wantKeys {
				t.Fatalf("key %d behind key %d", i, j)
			}
			if aes.Box(key[0]) != wantBox || aes.Times(key[0], key[1]) != wantTimes {
				t.Fatalf("bytes of key %d behind those of key %d", i, j)
			}
		}
	}
}

func TestSeveralGoroutines(t *testing.T) { // R5
	all := samples(100)
	var group sync.WaitGroup
	for i := range 8 {
		key := all[i]
		wantKeys, wantBlocks := keysOf(key), make([][16]byte, len(all))
		for n, block := range all {
			wantBlocks[n] = encrypted(t, key, block)
		}
		group.Go(func() {
			for n, block := range all {
				if aes.Encrypt(key, block) != wantBlocks[n] || aes.Keys(key) != wantKeys {
					t.Errorf("goroutine %d, block %d", i, n)
				}
				if b := block[0]; aes.Box(b) != boxOf(b) || aes.Times(b, key[0]) != product(b, key[0]) {
					t.Errorf("goroutine %d, bytes of block %d", i, n)
				}
			}
		})
	}
	group.Wait()
}

func TestImports(t *testing.T) { // R6, and the map: aes imports nothing
	files, err := filepath.Glob("*.go")
	if err != nil || len(files) == 0 {
		t.Fatal("no files", err)
	}
	for _, name := range files {
		if strings.HasSuffix(name, "_test.go") {
			continue
		}
		file, err := parser.ParseFile(token.NewFileSet(), name, nil, parser.ImportsOnly)
		if err != nil {
			t.Fatal(err)
		}
		for _, i := range file.Imports {
			t.Errorf("%s imports %s", name, i.Path.Value)
		}
	}
}
