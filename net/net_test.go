package net_test

import (
	"bytes"
	"go/ast"
	"go/parser"
	"go/token"
	"math"
	"math/rand"
	"path/filepath"
	"runtime"
	"strconv"
	"strings"
	"sync"
	"testing"
	"unsafe"
	"weak"

	"bartizan/api"
	"bartizan/net"
)

// made is a net without letters, where New must not refuse.
func made(t *testing.T, room int) *net.Net {
	t.Helper()
	n, err := net.New(room)
	if err != api.OK || n == nil {
		t.Fatalf("New(%d): error %d", room, err)
	}
	return n
}

// letter is one that differs from that of every other number in names and bytes.
func letter(i int) net.Letter {
	text := strconv.Itoa(i)
	return net.Letter{From: "from" + text, To: "to" + text, B: []byte("bytes" + text)}
}

// letters is that of each number.
func letters(numbers ...int) (list []net.Letter) {
	for _, i := range numbers {
		list = append(list, letter(i))
	}
	return list
}

// upTo is the numbers from 1 to count.
func upTo(count int) (numbers []int) {
	for i := range count {
		numbers = append(numbers, i+1)
	}
	return numbers
}

// filled is a net with the letters of the numbers.
func filled(t *testing.T, room int, numbers ...int) *net.Net {
	t.Helper()
	n := made(t, room)
	for _, i := range numbers {
		sends(t, n, letter(i))
	}
	return n
}

func same(a, b net.Letter) bool { return a.From == b.From && a.To == b.To && bytes.Equal(a.B, b.B) }

// sends: Send of l is OK, and there is one letter more.
func sends(t *testing.T, n *net.Net, l net.Letter) {
	t.Helper()
	count := n.Len()
	if err := n.Send(l); err != api.OK || n.Len() != count+1 {
		t.Fatalf("Send of %.40v: error %d, Len %d, was %d", l, err, n.Len(), count)
	}
}

// takes: Take answers the letter given, and there is one letter less.
func takes(t *testing.T, n *net.Net, want net.Letter) {
	t.Helper()
	count := n.Len()
	got, present := n.Take()
	if !present || !same(got, want) || n.Len() != count-1 {
		t.Errorf("Take: %.40v, %t, want %.40v, true; Len %d, was %d", got, present, want, n.Len(), count)
	}
}

// takesNone: Take answers the zero letter and false (R1), and there is none before and after.
func takesNone(t *testing.T, n *net.Net) {
	t.Helper()
	if got, present := n.Take(); present || got.From != "" || got.To != "" || len(got.B) != 0 {
		t.Errorf("Take of none: %v, %t", got, present)
	}
	if n.Len() != 0 {
		t.Errorf("Len of none: %d", n.Len())
	}
}

// doubles: Twice answers want, and there is one letter more if this is OK, else as many as there were.
func doubles(t *testing.T, n *net.Net, want api.Errno) {
	t.Helper()
	count := n.Len()
	if want == api.OK {
		count++
	}
	if err := n.Twice(); err != want || n.Len() != count {
		t.Errorf("Twice: error %d, want %d; Len %d, want %d", err, want, n.Len(), count)
	}
}

// delays: Later answers want, and there are as many letters as there were.
func delays(t *testing.T, n *net.Net, want bool) {
	t.Helper()
	count := n.Len()
	if got := n.Later(); got != want || n.Len() != count {
		t.Errorf("Later: %t, want %t; Len %d, was %d", got, want, n.Len(), count)
	}
}

// gives: the letters of the numbers, one after the other, and no more. Nothing is left.
func gives(t *testing.T, n *net.Net, numbers ...int) {
	t.Helper()
	if n.Len() != len(numbers) {
		t.Errorf("Len: %d, want %d", n.Len(), len(numbers))
	}
	for _, l := range letters(numbers...) {
		takes(t, n, l)
	}
	takesNone(t, n)
}

func TestExample(t *testing.T) { // P12.2: the chapter's example
	n := filled(t, 2, 1, 2)
	delays(t, n, true)
	takes(t, n, letter(2))
	takes(t, n, letter(1))
	takesNone(t, n)
}

func TestNew(t *testing.T) { // P12.1, R1: the ends of the range, and numbers far away
	for _, room := range []int{1, 2, 3, 100, 999, 1000} {
		n := made(t, room)
		takesNone(t, n)
		gives(t, filled(t, room, 1), 1)
	}
	for _, room := range []int{
		0, -1, -2, -1000, -1001, 1001, 1002, 1024, 65536, math.MaxInt32, math.MinInt32, math.MaxUint32 + 2, 1<<32 + 1000,
		-1 << 32, math.MaxInt, math.MaxInt - 1, math.MinInt, math.MinInt + 1, math.MinInt + 1000,
	} {
		if n, err := net.New(room); err != api.ErrArg || n != nil {
			t.Errorf("New(%d): error %d, a net: %t", room, err, n != nil)
		}
	}
}

func TestRoom(t *testing.T) { // P12.1: of every size, so many letters have room, and the next one has not
	for room := 1; room <= 1000; room++ {
		n := filled(t, room, upTo(room)...)
		for range 2 {
			if err := n.Send(letter(0)); err != api.ErrFull || n.Len() != room {
				t.Fatalf("room %d: one more: error %d, Len %d", room, err, n.Len())
			}
		}
		takes(t, n, letter(1))
		sends(t, n, letter(room+1))
		if err := n.Send(letter(0)); err != api.ErrFull {
			t.Fatalf("room %d: one more behind a Take: error %d", room, err)
		}
		gives(t, n, upTo(room + 1)[1:]...)
	}
}

func TestSendToFull(t *testing.T) { // P12.1, R1: ErrFull changes nothing, whatever the letter is
	for _, room := range []int{1, 2, 1000} {
		n := filled(t, room, upTo(room)...)
		for _, l := range []net.Letter{{}, letter(1), letter(room + 1), {B: make([]byte, 10000)}} {
			if err := n.Send(l); err != api.ErrFull {
				t.Errorf("room %d: error %d", room, err)
			}
		}
		gives(t, n, upTo(room)...)
		sends(t, n, letter(7))
		gives(t, n, 7)
	}
}

func TestSendBehindTake(t *testing.T) { // P12.1: what was taken has left its room, again and again
	for _, room := range []int{1, 2, 3, 1000} {
		n := filled(t, room, upTo(room)...)
		for i := 1; i <= 2*room+3; i++ {
			takes(t, n, letter(i))
			sends(t, n, letter(room+i))
			if err := n.Send(letter(0)); err != api.ErrFull {
				t.Fatalf("room %d, letter %d: error %d", room, i, err)
			}
		}
	}
}

func TestTake(t *testing.T) { // P12.1: of none, of one and of many, with room left and without
	for _, room := range []int{1, 2, 7, 1000} {
		n := made(t, room)
		for _, count := range []int{0, 1, room/2 + 1, room} {
			takesNone(t, n)
			takesNone(t, n)
			for _, l := range letters(upTo(count)...) {
				sends(t, n, l)
			}
			gives(t, n, upTo(count)...)
		}
	}
}

func TestZeroLetter(t *testing.T) { // P12.1, R2: one without names and bytes is a letter, too
	for _, l := range []net.Letter{{}, {B: []byte{}}, {B: make([]byte, 0, 9)}} {
		n := made(t, 3)
		sends(t, n, l)
		delays(t, n, true)
		doubles(t, n, api.OK)
		takes(t, n, net.Letter{})
		takes(t, n, net.Letter{})
		takesNone(t, n)
	}
}

func TestLetters(t *testing.T) { // P12.1, P12.2: names and bytes of every length; each field is that which was sent
	var list []net.Letter
	for length := range 300 {
		text, b := strings.Repeat("a\x00\xff", length)[:length], bytes.Repeat([]byte{byte(length), 0, 255}, length)
		list = append(list, net.Letter{From: text}, net.Letter{To: text}, net.Letter{B: b[:length]}, net.Letter{From: text, To: text + "b", B: b})
	}
	for _, size := range []int{1000, 4096, 65537, 1 << 20} {
		b := make([]byte, size)
		rand.New(rand.NewSource(int64(size))).Read(b)
		list = append(list, net.Letter{From: string(b), To: "b", B: b[1:]}, net.Letter{From: "a", To: string(b[:size-1]), B: b})
	}
	for i, l := range list {
		n := made(t, 2)
		sends(t, n, l)
		doubles(t, n, api.OK)
		takes(t, n, l)
		delays(t, n, true)
		takes(t, n, l)
		if t.Failed() {
			t.Fatalf("letter %d", i)
		}
	}
	n := made(t, 1000)
	for _, l := range list[:1000] {
		sends(t, n, l)
	}
	for _, l := range list[:1000] {
		takes(t, n, l)
	}
}

func TestGreatLetter(t *testing.T) { // R7: bytes by the tens of millions
	b := bytes.Repeat([]byte("abcdefg"), 1<<23)
	l := net.Letter{From: "a", To: "b", B: b}
	n := made(t, 2)
	sends(t, n, l)
	doubles(t, n, api.OK)
	takes(t, n, l)
	takes(t, n, l)
}

func TestLater(t *testing.T) { // P12.2: of none, one and many: the first one is the last one, the others stand as they stood
	for _, room := range []int{1, 2, 3, 8, 1000} {
		none := made(t, room)
		delays(t, none, false)
		takesNone(t, none)
		sends(t, none, letter(1))
		gives(t, none, 1)
		for _, count := range []int{1, 2, room - 1, room} { // room - 1 leaves room, room is a full net
			if count < 1 || count > room {
				continue
			}
			n := filled(t, room, upTo(count)...)
			delays(t, n, true)
			gives(t, n, append(upTo(count)[1:], 1)...)
			delays(t, n, false)
		}
	}
	n := filled(t, 4, 1, 2, 3)
	delays(t, n, true)
	delays(t, n, true)
	sends(t, n, letter(4))
	gives(t, n, 3, 1, 2, 4)
}

func TestTwice(t *testing.T) { // P12.2: the copy is the last letter; the first one remains, the others stand as they stood
	for _, room := range []int{2, 3, 4, 9, 1000} {
		for _, count := range []int{1, 2, 3, room - 1} {
			if count >= room {
				continue
			}
			n := filled(t, room, upTo(count)...)
			doubles(t, n, api.OK)
			gives(t, n, append(upTo(count), 1)...)
		}
	}
	n := filled(t, 6, 1, 2)
	doubles(t, n, api.OK)
	doubles(t, n, api.OK)
	takes(t, n, letter(1))
	doubles(t, n, api.OK)
	delays(t, n, true)
	doubles(t, n, api.OK)
	gives(t, n, 1, 1, 2, 2, 1)
}

func TestTwiceOfNone(t *testing.T) { // P12.2, R1: ErrName changes nothing
	for _, room := range []int{1, 2, 1000} {
		n := made(t, room)
		doubles(t, n, api.ErrName)
		doubles(t, n, api.ErrName)
		takesNone(t, n)
		sends(t, n, letter(1))
		takes(t, n, letter(1))
		doubles(t, n, api.ErrName)
		takesNone(t, n)
	}
}

func TestTwiceInFull(t *testing.T) { // P12.2, R1: ErrFull changes nothing; with room of 1 and one letter, too
	for _, room := range []int{1, 2, 3, 1000} {
		n := filled(t, room, upTo(room)...)
		doubles(t, n, api.ErrFull)
		doubles(t, n, api.ErrFull)
		gives(t, n, upTo(room)...)
	}
	n := filled(t, 2, 1)
	doubles(t, n, api.OK)
	doubles(t, n, api.ErrFull)
	takes(t, n, letter(1))
	doubles(t, n, api.OK)
	doubles(t, n, api.ErrFull)
	gives(t, n, 1, 1)
}

func TestOrder(t *testing.T) { // P12.3: taken in the order in which they were sent, as many as were sent
	for _, room := range []int{1, 2, 3, 7, 64, 1000} {
		r := rand.New(rand.NewSource(int64(room)))
		n := made(t, room)
		sent, taken := 0, 0
		for range 20 {
			for range r.Intn(room) + 1 {
				if sent-taken < room {
					sent++
					sends(t, n, letter(sent))
				}
			}
			for range r.Intn(room + 1) {
				if sent > taken {
					taken++
					takes(t, n, letter(taken))
				}
			}
			if n.Len() != sent-taken {
				t.Fatalf("room %d: Len %d behind %d sent and %d taken", room, n.Len(), sent, taken)
			}
		}
		gives(t, n, upTo(sent)[taken:]...)
	}
}

func TestLaterOnceForEach(t *testing.T) { // P12.3: they stand as they stood, with room left and without
	for _, room := range []int{1, 2, 3, 10, 1000} {
		for _, count := range []int{1, 2, 3, 9, 10, 999, 1000} {
			if count > room {
				continue
			}
			for rounds := 1; rounds <= 3; rounds++ {
				n := filled(t, room, upTo(count)...)
				for range rounds * count {
					delays(t, n, true)
				}
				gives(t, n, upTo(count)...)
			}
		}
	}
}

// model is a net by the document's words: letters in their order.
type model struct {
	room    int
	letters []net.Letter
}

func (m *model) send(l net.Letter) api.Errno {
	if len(m.letters) == m.room {
		return api.ErrFull
	}
	m.letters = append(m.letters, l)
	return api.OK
}

func (m *model) take() (l net.Letter, present bool) {
	if len(m.letters) == 0 {
		return l, false
	}
	l, m.letters = m.letters[0], m.letters[1:]
	return l, true
}

func (m *model) later() bool {
	l, present := m.take()
	if present {
		m.letters = append(m.letters, l)
	}
	return present
}

func (m *model) twice() api.Errno {
	if len(m.letters) == 0 {
		return api.ErrName
	}
	return m.send(m.letters[0])
}

func TestLongRuns(t *testing.T) { // P12.1 to P12.3, P0, P6: as the document's words have it, for nets of many sizes
	for _, room := range []int{1, 2, 3, 4, 5, 8, 20, 100, 1000} {
		for _, sends := range []int{3, 5, 7} { // of twelve calls, so that nets are mostly empty, neither, and mostly full
			agrees(t, room, sends)
		}
	}
}

// agrees: a long run of calls on a net answers as the model does.
func agrees(t *testing.T, room, sends int) {
	t.Helper()
	r := rand.New(rand.NewSource(int64(room)))
	n, m := made(t, room), &model{room: room}
	for step := range 3000 {
		switch which := r.Intn(12); {
		case which == 0:
			if got, want := n.Later(), m.later(); got != want {
				t.Fatalf("room %d, step %d: Later: %t, want %t", room, step, got, want)
			}
		case which == 1:
			if got, want := n.Twice(), m.twice(); got != want {
				t.Fatalf("room %d, step %d: Twice: %d, want %d", room, step, got, want)
			}
		case which < 2+sends:
			l := letter(step)
			if got, want := n.Send(l), m.send(l); got != want {
				t.Fatalf("room %d, step %d: Send: %d, want %d", room, step, got, want)
			}
		default:
			got, present := n.Take()
			if want, wantPresent := m.take(); present != wantPresent || !same(got, want) {
				t.Fatalf("room %d, step %d: Take: %v, %t, want %v, %t", room, step, got, present, want, wantPresent)
			}
		}
		if n.Len() != len(m.letters) {
			t.Fatalf("room %d, step %d: Len %d, want %d", room, step, n.Len(), len(m.letters))
		}
	}
	for _, l := range m.letters {
		takes(t, n, l)
	}
	takesNone(t, n)
}

func TestArgumentsAreNotKept(t *testing.T) { // R3: what is written into the bytes after Send is not seen
	n := made(t, 4)
	b := []byte("abcdefghij")
	sends(t, n, net.Letter{B: b[:3]})
	sends(t, n, net.Letter{B: b[3:6]})
	sends(t, n, net.Letter{B: b[:0]})
	doubles(t, n, api.OK)
	copy(b, "##########")
	for _, want := range []string{"abc", "def", "", "abc"} {
		takes(t, n, net.Letter{B: []byte(want)})
	}
	doubled := made(t, 3)
	b = []byte("abc")
	sends(t, doubled, net.Letter{B: b})
	b[0] = '#'
	doubles(t, doubled, api.OK) // what was written before the copy was made is not seen in it
	b[1] = '#'
	takes(t, doubled, net.Letter{B: []byte("abc")})
	takes(t, doubled, net.Letter{B: []byte("abc")})
}

func TestArgumentsStay(t *testing.T) { // R3: nothing is written into the bytes that are sent, nor behind their end
	b := []byte("abcdefghij")
	n := made(t, 3)
	sends(t, n, net.Letter{From: "a", To: "b", B: b[2:5]})
	doubles(t, n, api.OK)
	delays(t, n, true)
	doubles(t, n, api.OK)
	if err := n.Send(net.Letter{B: b[:4]}); err != api.ErrFull {
		t.Errorf("error %d", err)
	}
	for range 3 {
		l, _ := n.Take()
		scribble(l.B)
	}
	if string(b) != "abcdefghij" {
		t.Errorf("the bytes became %s", b)
	}
}

// scribble writes over the bytes, and over what is behind their end, as far as their memory goes.
func scribble(b []byte) {
	all := b[:cap(b)]
	for i := range all {
		all[i] = '#'
	}
}

func TestResultsAreTheCallers(t *testing.T) { // R3: what is written into a letter taken changes no other one, nor a later answer
	for _, text := range []string{"a", "abcde", strings.Repeat("abc", 100)} {
		n := made(t, 9)
		want := net.Letter{From: "a", To: "b", B: []byte(text)}
		for range 2 {
			sends(t, n, want)
			doubles(t, n, api.OK) // a copy of the letter, and one of the letter that was copied
			doubles(t, n, api.OK)
			delays(t, n, true)
			doubles(t, n, api.OK)
		}
		taken := make([]net.Letter, 0, n.Len())
		for n.Len() > 4 {
			l, _ := n.Take()
			taken = append(taken, l)
		}
		for i, l := range taken {
			scribble(l.B)
			for _, other := range taken[i+1:] {
				if !same(other, want) {
					t.Errorf("a letter that was taken became %v", other)
				}
			}
		}
		sends(t, n, letter(1))
		for range 4 {
			takes(t, n, want)
		}
		takes(t, n, letter(1))
	}
}

func TestTakenStays(t *testing.T) { // R3: what later calls do is not seen in a letter that was taken
	n := filled(t, 2, 1)
	doubles(t, n, api.OK)
	first, _ := n.Take()
	sends(t, n, letter(2))
	delays(t, n, true)
	second, _ := n.Take()
	doubles(t, n, api.OK)
	gives(t, n, 1, 1)
	if !same(first, letter(1)) || !same(second, letter(2)) {
		t.Errorf("they became %v and %v", first, second)
	}
}

func TestNamesAreCopied(t *testing.T) { // R3: a name that is a piece of a long text does not hold it
	long := strings.Repeat("alice", 100)
	n := made(t, 2)
	sends(t, n, net.Letter{From: long[:5], To: long[5:10]})
	doubles(t, n, api.OK)
	first, _ := n.Take()
	second, _ := n.Take()
	start := func(s string) uintptr { return uintptr(unsafe.Pointer(unsafe.StringData(s))) }
	for _, name := range []string{first.From, first.To, second.From, second.To} {
		if name != "alice" || start(name)-start(long) < uintptr(len(long)) {
			t.Errorf("%s is in the memory of the text", name)
		}
	}
	runtime.KeepAlive(long)
}

func TestNothingIsKeptOfTheTaken(t *testing.T) { // the bytes of a letter that was taken are not held
	const count = 100
	n := made(t, count)
	var gone []weak.Pointer[byte]
	for i := range count / 2 {
		sends(t, n, net.Letter{B: bytes.Repeat([]byte{byte(i)}, 100)})
	}
	for range count / 2 {
		doubles(t, n, api.OK)
		delays(t, n, true)
	}
	for range count {
		l, _ := n.Take()
		gone = append(gone, weak.Make(&l.B[0]))
	}
	runtime.GC()
	held := 0
	for _, p := range gone {
		if p.Value() != nil {
			held++
		}
	}
	if held > 2 { // the machine may hold the last ones a while
		t.Errorf("%d of %d are held", held, count)
	}
	runtime.KeepAlive(n)
}

func TestTwoNets(t *testing.T) { // R4: what is done to one is not seen in another
	a, b := filled(t, 2, 1, 2), filled(t, 3, 1, 2)
	takes(t, a, letter(1))
	delays(t, b, true)
	doubles(t, a, api.OK)
	sends(t, b, letter(3))
	if l, _ := a.Take(); l.B != nil {
		scribble(l.B)
	}
	if _, err := net.New(0); err != api.ErrArg {
		t.Errorf("New(0): error %d", err)
	}
	gives(t, made(t, 2))
	gives(t, a, 2)
	gives(t, b, 2, 1, 3)
	l := letter(5)
	sends(t, a, l) // one letter in two nets
	sends(t, b, l)
	taken, _ := a.Take()
	scribble(taken.B)
	gives(t, b, 5)
}

// script is the answers of the same calls on a net of their own, as one text.
func script(t *testing.T) string {
	n := made(t, 12)
	r := rand.New(rand.NewSource(3))
	var answers strings.Builder
	tell := func(number int, present bool, more ...string) {
		answers.WriteString(strconv.Itoa(number) + strconv.FormatBool(present) + strings.Join(more, " ") + "\n")
	}
	for step := range 2000 {
		switch r.Intn(5) {
		case 0:
			l, present := n.Take()
			tell(0, present, l.From, l.To, string(l.B))
		case 1:
			tell(0, n.Later())
		case 2:
			tell(int(n.Twice()), false)
		default:
			tell(int(n.Send(letter(step))), false)
		}
		tell(n.Len(), false)
		if r.Intn(3) == 0 {
			n.Take()
		}
	}
	return answers.String()
}

func TestSameCallsSameAnswers(t *testing.T) { // R4: and nothing of what is done to other nets
	want := script(t)
	for room := 1; room <= 30; room++ {
		filled(t, room, upTo(room)...)
		if script(t) != want {
			t.Fatal("other answers of the same calls")
		}
	}
}

func TestSeveralGoroutines(t *testing.T) { // R5: each with a net of its own
	want := script(t)
	var group sync.WaitGroup
	for range 8 {
		group.Go(func() {
			if script(t) != want {
				t.Error("other answers in a goroutine")
			}
		})
	}
	group.Wait()
}

func TestNoGoroutineStays(t *testing.T) { // what a call began has ended when it answers
	before := runtime.NumGoroutine()
	n := filled(t, 5, 1, 2, 3)
	delays(t, n, true)
	doubles(t, n, api.OK)
	takes(t, n, letter(2))
	if after := runtime.NumGoroutine(); after > before {
		t.Errorf("%d goroutines, were %d", after, before)
	}
	gives(t, n, 3, 1, 2)
}

func TestImports(t *testing.T) { // R6, and the map: net imports api alone
	files, err := filepath.Glob("*.go")
	if err != nil || len(files) == 0 {
		t.Fatal("no files", err)
	}
	for _, name := range files {
		if strings.HasSuffix(name, "_test.go") {
			continue
		}
		file, err := parser.ParseFile(token.NewFileSet(), name, nil, 0)
		if err != nil {
			t.Fatal(err)
		}
		ast.Inspect(file, func(node ast.Node) bool {
			if i, ok := node.(*ast.ImportSpec); ok && strings.Contains(i.Path.Value, "bartizan") && i.Path.Value != `"bartizan/api"` {
				t.Errorf("%s imports %s", name, i.Path.Value)
			}
			return true
		})
	}
}
