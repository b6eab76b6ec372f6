package store_test

import (
	"bytes"
	"go/ast"
	"go/parser"
	"go/token"
	"math"
	"math/rand"
	"path/filepath"
	"slices"
	"strconv"
	"strings"
	"sync"
	"testing"

	"bartizan/api"
	"bartizan/store"
)

const mostRoom = 1 << 20

// made is an empty store, where New must not refuse.
func made(t *testing.T, room int) *store.Store {
	t.Helper()
	s, err := store.New(room)
	if err != api.OK || s == nil {
		t.Fatalf("New(%d): error %d", room, err)
	}
	return s
}

// step is a call on a store, told as words, and the error that is asked of it.
type step struct {
	words string
	call  func(*store.Store) api.Errno
	want  api.Errno
}

func appends(text string) step {
	return step{"Append " + text, func(s *store.Store) api.Errno { return s.Append([]byte(text)) }, api.OK}
}

func replaces(text string) step {
	return step{"Replace " + text, func(s *store.Store) api.Errno { return s.Replace([]byte(text)) }, api.OK}
}

func syncs() step { return step{"Sync", (*store.Store).Sync, api.OK} }

func turns(at int, by byte) step {
	return step{"Turn", func(s *store.Store) api.Errno { return s.Turn(at, by) }, api.OK}
}

func fuse(n int) step {
	return step{"Fuse " + strconv.Itoa(n), func(s *store.Store) api.Errno { s.Fuse(n); return api.OK }, api.OK}
}

func crash(kept int) step {
	return step{"Crash " + strconv.Itoa(kept), func(s *store.Store) api.Errno { s.Crash(kept); return api.OK }, api.OK}
}

// fails is the same call, of which an error is asked.
func (x step) fails(want api.Errno) step {
	x.want = want
	return x
}

// behind is a new store behind the steps, each of which answers as asked.
func behind(t *testing.T, room int, steps ...step) *store.Store {
	t.Helper()
	s := made(t, room)
	for i, x := range steps {
		if got := x.call(s); got != x.want {
			t.Fatalf("step %d, %s: error %d, want %d", i, x.words, got, x.want)
		}
	}
	return s
}

// reads: the bytes are those of the text.
func reads(t *testing.T, s *store.Store, want string) {
	t.Helper()
	if got := s.Read(); string(got) != want {
		t.Errorf("Read: %.60q (%d bytes), want %.60q (%d)", got, len(got), want, len(want))
	}
}

// holds: behind the steps the bytes are those of the text, the first ones of which, as many as durable, outlive a crash that keeps none.
func holds(t *testing.T, room int, text string, durable int, steps ...step) {
	t.Helper()
	s := behind(t, room, steps...)
	reads(t, s, text)
	s.Crash(0)
	reads(t, s, text[:durable])
}

// refuses: without power no call changes anything. It ends the use of s.
func refuses(t *testing.T, s *store.Store) {
	t.Helper()
	before := string(s.Read())
	for _, x := range []step{appends("a"), appends(""), syncs(), replaces("b"), replaces(""), replaces(before)} {
		if got := x.call(s); got != api.ErrDown {
			t.Errorf("%s without power: error %d", x.words, got)
		}
		reads(t, s, before)
	}
}

// works: there is power, and no fuse. It ends the use of s.
func works(t *testing.T, s *store.Store) {
	t.Helper()
	for i := range 1000 {
		for _, x := range []step{syncs(), appends(""), replaces("")} {
			if got := x.call(s); got != api.OK {
				t.Fatalf("round %d, %s: error %d", i, x.words, got)
			}
		}
	}
}

func TestExample(t *testing.T) { // P13.3: the chapter's example
	s := behind(t, 10, appends("ab"), syncs(), appends("cd"), crash(1))
	reads(t, s, "abc")
	s.Crash(0)
	reads(t, s, "abc")
}

func TestNew(t *testing.T) { // P13.1, R1: the ends of the range, and numbers far away
	for _, room := range []int{0, 1, 2, 3, 1000, 1<<16 + 1, mostRoom - 1, mostRoom} {
		s := made(t, room)
		reads(t, s, "")
		works(t, s)
	}
	for _, room := range []int{
		-1, -2, -mostRoom, mostRoom + 1, mostRoom + 2, 2 * mostRoom, math.MaxInt32, math.MinInt32, 1 << 32, 1<<32 + 1, 1<<32 + mostRoom,
		-1 << 32, math.MaxInt, math.MaxInt - 1, math.MinInt, math.MinInt + 1, math.MinInt + mostRoom,
	} {
		if s, err := store.New(room); err != api.ErrArg || s != nil {
			t.Errorf("New(%d): error %d, a store: %t", room, err, s != nil)
		}
	}
}

func TestRead(t *testing.T) { // P13.1: of none, of durable bytes and of others; with power and without
	for _, steps := range [][]step{
		{replaces("abc")},
		{appends("abc")},
		{appends("ab"), syncs(), appends("c")},
		{appends("ab"), appends(""), appends("c"), syncs()},
		{replaces("x"), replaces("ab"), appends("c")},
		{appends("abc"), fuse(0)},
	} {
		s := behind(t, 3, steps...)
		reads(t, s, "abc")
		reads(t, s, "abc") // and again
		s.Fuse(0)
		s.Sync()
		reads(t, s, "abc")
		refuses(t, s)
	}
	s := behind(t, 0, fuse(0), syncs().fails(api.ErrDown))
	reads(t, s, "")
}

func TestReadBurnsNothing(t *testing.T) { // P13.1: only Append, Sync and Replace burn the fuse; not Read, Turn and Fuse
	s := behind(t, 9, appends("ab"), fuse(1))
	for range 5 {
		reads(t, s, "ab")
		s.Turn(0, 0)
		s.Turn(2, 1)
	}
	if err := s.Append([]byte("c")); err != api.OK {
		t.Errorf("error %d", err)
	}
	refuses(t, s)
}

func TestFuse(t *testing.T) { // P13.1, P13.2: so many calls have power, whichever they are; the next one, and all behind it, have not
	calls := []step{appends("a"), syncs(), replaces("bc"), appends(""), replaces(""), appends("123456789").fails(api.ErrFull), replaces("123456789").fails(api.ErrFull)}
	for n := range 30 {
		for first := range calls {
			s := behind(t, 8, replaces("xy"), fuse(n))
			for i := range n {
				x := calls[(first+i)%len(calls)]
				if err := x.call(s); err != x.want {
					t.Fatalf("fuse %d, call %d, %s: error %d, want %d", n, i, x.words, err, x.want)
				}
			}
			refuses(t, s)
		}
	}
	for n := range 30 {
		s := behind(t, 8, fuse(n))
		for i := range n {
			if err := s.Sync(); err != api.OK {
				t.Fatalf("fuse %d, Sync %d: error %d", n, i, err)
			}
		}
		refuses(t, s)
	}
}

func TestFuseOfEachCall(t *testing.T) { // P13.2: each of the three uses up one of the fuse, with OK and with ErrFull
	for _, x := range []step{
		appends("a"), appends(""), syncs(), replaces("ab"), replaces(""), appends("abc").fails(api.ErrFull), replaces("abcd").fails(api.ErrFull),
	} {
		for _, n := range []int{1, 2, 5} {
			s := behind(t, 3, replaces("z"), fuse(n), x)
			for range n - 1 {
				if err := s.Sync(); err != api.OK {
					t.Errorf("fuse %d, behind %s: error %d", n, x.words, err)
				}
			}
			refuses(t, s)
		}
	}
}

func TestFuseSetAnew(t *testing.T) { // P13.1: the last number counts; a negative one removes the fuse
	for _, negative := range []int{-1, -2, -1000, math.MinInt32, math.MinInt, math.MinInt + 1} {
		works(t, behind(t, 9, fuse(negative)))
		works(t, behind(t, 9, fuse(0), fuse(negative)))
		works(t, behind(t, 9, fuse(2), syncs(), syncs(), fuse(negative)))
		works(t, behind(t, 9, fuse(negative), fuse(negative)))
		refuses(t, behind(t, 9, fuse(negative), fuse(0)))
		refuses(t, behind(t, 9, fuse(0), syncs().fails(api.ErrDown), fuse(negative))) // power does not come by it
	}
	refuses(t, behind(t, 9, fuse(5), fuse(0)))
	refuses(t, behind(t, 9, fuse(1), syncs(), fuse(1), syncs()))
	refuses(t, behind(t, 9, fuse(0), fuse(2), syncs(), syncs()))
	refuses(t, behind(t, 9, fuse(0), syncs().fails(api.ErrDown), fuse(7)))
	for _, far := range []int{mostRoom, math.MaxInt32, 1 << 32, math.MaxInt} {
		works(t, behind(t, 9, fuse(far)))
	}
}

func TestAppend(t *testing.T) { // P13.2: behind the bytes, not yet durable
	holds(t, 9, "a", 0, appends("a"))
	holds(t, 9, "abc", 0, appends("a"), appends("bc"))
	holds(t, 9, "abcde", 2, appends("ab"), syncs(), appends("cd"), appends("e"))
	holds(t, 9, "abc", 2, replaces("ab"), appends("c"))
	holds(t, 9, "", 0, appends(""))
	holds(t, 9, "ab", 2, replaces("ab"), appends(""))
	holds(t, 9, "\x00\xff\x00", 1, replaces("\x00"), appends("\xff\x00"))
}

func TestAppendUpToTheRoom(t *testing.T) { // P13.2, R1: one byte beyond it is ErrFull, which changes no byte, nor what is durable
	for _, room := range []int{0, 1, 2, 3, 10, 1000, mostRoom - 1, mostRoom} {
		whole := strings.Repeat("abcdefg", room/7+1)[:room]
		holds(t, room, whole, 0, appends(whole))
		holds(t, room, whole, 0, appends(whole), appends(""))
		holds(t, room, "", 0, appends(whole+"x").fails(api.ErrFull))
		holds(t, room, whole, 0, appends(whole), appends("x").fails(api.ErrFull))
		holds(t, room, whole, room, appends(whole), syncs(), appends("x").fails(api.ErrFull), appends(""))
		for _, at := range []int{1, room / 2, room - 1} {
			if at < 1 || at > room {
				continue
			}
			start, rest := whole[:at], whole[at:]
			holds(t, room, whole, at, replaces(start), appends(rest+"x").fails(api.ErrFull), appends(rest))
			holds(t, room, whole, 0, appends(start), appends(whole).fails(api.ErrFull), appends(rest), appends("x").fails(api.ErrFull))
			holds(t, room, start, 0, appends(start), appends(rest+"x").fails(api.ErrFull))
		}
	}
	for room := range 300 {
		s := made(t, room)
		for i := range room {
			if err := s.Append([]byte{byte(i)}); err != api.OK {
				t.Fatalf("room %d, byte %d: error %d", room, i, err)
			}
		}
		if err := s.Append([]byte{1}); err != api.ErrFull || len(s.Read()) != room {
			t.Fatalf("room %d, one more: error %d, %d bytes", room, err, len(s.Read()))
		}
	}
}

func TestSync(t *testing.T) { // P13.2: all bytes are durable behind it
	holds(t, 9, "", 0, syncs())
	holds(t, 9, "ab", 2, appends("ab"), syncs())
	holds(t, 9, "ab", 2, appends("ab"), syncs(), syncs())
	holds(t, 9, "abcd", 4, appends("ab"), syncs(), appends("cd"), syncs())
	holds(t, 9, "abc", 3, replaces("ab"), appends("c"), syncs())
	holds(t, 2, "ab", 2, appends("ab"), appends("c").fails(api.ErrFull), syncs())
}

func TestReplace(t *testing.T) { // P13.2: its bytes are all there are, and durable
	holds(t, 9, "ab", 2, replaces("ab"))
	holds(t, 9, "ab", 2, appends("cdefg"), replaces("ab"))
	holds(t, 9, "ab", 2, appends("cdefg"), syncs(), replaces("ab"))
	holds(t, 9, "abcdef", 6, appends("x"), syncs(), appends("y"), replaces("abcdef"))
	holds(t, 9, "", 0, replaces(""))
	holds(t, 9, "", 0, appends("abc"), syncs(), appends("d"), replaces(""))
	holds(t, 9, "ab", 0, replaces("xyz"), replaces(""), appends("ab"))
	holds(t, 9, "abc", 2, appends("wxyz"), syncs(), replaces("ab"), appends("c"))
}

func TestReplaceUpToTheRoom(t *testing.T) { // P13.2, R1: one byte beyond it is ErrFull, which changes no byte, nor what is durable
	for _, room := range []int{0, 1, 2, 3, 10, 1000, mostRoom - 1, mostRoom} {
		whole := strings.Repeat("hijklmnop", room/9+1)[:room]
		holds(t, room, whole, room, replaces(whole))
		holds(t, room, whole, room, replaces(whole), replaces(whole+"x").fails(api.ErrFull))
		holds(t, room, whole, 0, appends(whole), replaces(whole+"x").fails(api.ErrFull))
		holds(t, room, "", 0, appends(whole), replaces(whole+whole+"x").fails(api.ErrFull), replaces(""))
		holds(t, room, whole, room, appends(whole[:room/2]), replaces(whole), appends("x").fails(api.ErrFull))
		holds(t, room, whole, 0, appends(whole), syncs(), replaces(""), appends(whole)) // all the room is there again
	}
}

func TestWithoutPower(t *testing.T) { // P13.2, R1: the call on which the power goes changes nothing else, nor do those behind it, whatever the fuse
	calls := []step{
		appends("x"), appends(""), syncs(), replaces("y"), replaces(""), replaces("wxyz"),
		appends("123456789"), replaces("123456789"), // ErrDown comes before ErrFull
	}
	for _, x := range calls {
		down := x.fails(api.ErrDown)
		holds(t, 5, "abcd", 2, replaces("ab"), appends("cd"), fuse(0), down)
		holds(t, 5, "abcd", 2, replaces("ab"), appends("cd"), fuse(0), down, down)
		holds(t, 5, "abcd", 0, appends("ab"), fuse(1), appends("cd"), down)
		holds(t, 5, "", 0, fuse(0), down)
		for _, n := range []int{-1, 0, 1, 5, math.MinInt, math.MaxInt} {
			holds(t, 5, "abcd", 2, replaces("ab"), appends("cd"), fuse(0), syncs().fails(api.ErrDown), fuse(n), down, down)
		}
		refuses(t, behind(t, 5, replaces("ab"), fuse(0), down, fuse(3)))
	}
}

func TestFuseWithErrFull(t *testing.T) { // P13.2: ErrFull while there is power, ErrDown behind it
	s := behind(t, 2, replaces("ab"), fuse(2), appends("c").fails(api.ErrFull), replaces("abc").fails(api.ErrFull),
		appends("c").fails(api.ErrDown), replaces("abc").fails(api.ErrDown))
	reads(t, s, "ab")
	refuses(t, s)
}

func TestGreatBytes(t *testing.T) { // R7: bytes by the hundreds of millions have no room
	great := make([]byte, 1<<29)
	s := behind(t, mostRoom, appends("ab"))
	if err := s.Append(great); err != api.ErrFull {
		t.Errorf("Append: error %d", err)
	}
	if err := s.Replace(great); err != api.ErrFull {
		t.Errorf("Replace: error %d", err)
	}
	reads(t, s, "ab")
}

func TestCrash(t *testing.T) { // P13.3: of no bytes, some and all, and of more; durable bytes all stay, and those that stay are durable
	for _, kept := range []struct{ number, stay int }{
		{math.MinInt, 0}, {-1 << 32, 0}, {-5, 0}, {-2, 0}, {-1, 0}, {0, 0}, {1, 1}, {2, 2}, {3, 3}, {4, 3}, {5, 3}, {1 << 32, 3}, {math.MaxInt - 1, 3}, {math.MaxInt, 3},
	} {
		text := "abcde"[:2+kept.stay]
		holds(t, 9, text, len(text), appends("ab"), syncs(), appends("cde"), crash(kept.number))
		holds(t, 9, text, len(text), replaces("ab"), appends("cd"), appends("e"), crash(kept.number))
		holds(t, 9, "cde"[:kept.stay], kept.stay, appends("c"), appends("de"), crash(kept.number))
		holds(t, 9, "ab", 2, replaces("ab"), crash(kept.number)) // all durable
		holds(t, 9, "", 0, crash(kept.number))
		holds(t, 9, text, len(text), replaces("ab"), appends("cde"), crash(kept.number), crash(0), crash(-1), crash(9))
	}
}

func TestBehindCrash(t *testing.T) { // P13.3: what was lost has left its room, and does not come again
	holds(t, 4, "abef", 2, replaces("ab"), appends("cd"), crash(0), appends("ef"))
	holds(t, 4, "abce", 3, replaces("ab"), appends("cd"), crash(1), appends("e"), appends("f").fails(api.ErrFull))
	holds(t, 4, "ab", 2, replaces("ab"), appends("cd"), crash(0), syncs(), crash(2))
	holds(t, 4, "ab", 2, replaces("ab"), appends("cd"), crash(0), appends(""), crash(2))
	holds(t, 4, "ef", 2, replaces("ab"), appends("cd"), crash(1), replaces("ef"))
	holds(t, 4, "", 0, appends("abcd"), crash(0), turns(0, 1).fails(api.ErrName))
}

func TestPowerBehindCrash(t *testing.T) { // P13.3: there is power, and no fuse, with power before and without
	for _, kept := range []int{math.MinInt, -1, 0, 1, 9, math.MaxInt} {
		works(t, behind(t, 9, crash(kept)))
		works(t, behind(t, 9, fuse(0), crash(kept)))
		works(t, behind(t, 9, fuse(3), appends("ab"), crash(kept)))
		works(t, behind(t, 9, appends("ab"), fuse(0), syncs().fails(api.ErrDown), crash(kept)))
		works(t, behind(t, 9, fuse(0), syncs().fails(api.ErrDown), fuse(0), crash(kept)))
		works(t, behind(t, 9, fuse(0), syncs().fails(api.ErrDown), fuse(5), crash(kept), crash(kept)))
		refuses(t, behind(t, 9, crash(kept), fuse(0)))
		refuses(t, behind(t, 9, fuse(0), syncs().fails(api.ErrDown), crash(kept), fuse(1), appends("a")))
	}
}

func TestTurn(t *testing.T) { // P13.3: at every byte, by every byte; the others stay
	text := "abc\x00\xff"
	for at := range len(text) {
		for by := range 256 {
			want := []byte(text)
			want[at] ^= byte(by)
			holds(t, 9, string(want), 2, replaces("ab"), appends("c\x00\xff"), turns(at, byte(by))) // as durable as it was
			holds(t, 9, text, 2, replaces("ab"), appends("c\x00\xff"), turns(at, byte(by)), turns(at, byte(by)))
		}
	}
	s := behind(t, 9, replaces("ab"), appends("cd"), turns(0, 1), turns(1, 255), turns(1, 128), turns(3, 4), turns(0, 2))
	reads(t, s, "b\x1dc`")
	s.Crash(2)
	reads(t, s, "b\x1dc`")
	holds(t, 9, "b", 1, appends("a"), turns(0, 3), syncs())
	holds(t, 9, "abc", 2, replaces("xb"), turns(0, 'a'^'x'), appends("c"))
	holds(t, 9, "zz", 2, replaces("ab"), turns(0, 255), turns(1, 255), replaces("zz"))
}

func TestTurnOfNone(t *testing.T) { // P13.3, R1: before the first byte and behind the last one, with room left there, and where bytes were
	for _, at := range []int{-1, -2, math.MinInt, -1 << 32, 4, 5, 8, 9, 10, 1 << 32, 1<<32 + 1, math.MaxInt} {
		for _, by := range []byte{0, 1, 255} {
			none := turns(at, by).fails(api.ErrName)
			holds(t, 9, "abcd", 2, replaces("ab"), appends("cd"), none)
			holds(t, 9, "abcd", 4, replaces("123456789"), replaces("abcd"), none)
			holds(t, 9, "abcd", 4, replaces("abcd"), appends("56789"), crash(0), none)
			holds(t, 9, "abcd", 0, appends("abcd"), fuse(0), syncs().fails(api.ErrDown), none)
			holds(t, 4, "", 0, none)
		}
	}
	for _, at := range []int{-1, 0, 1} {
		none := turns(at, 1).fails(api.ErrName)
		holds(t, 4, "", 0, none)
		holds(t, 0, "", 0, none)
		holds(t, 4, "", 0, replaces("ab"), replaces(""), none)
		holds(t, 4, "", 0, fuse(0), syncs().fails(api.ErrDown), none)
	}
}

func TestTurnWithoutPower(t *testing.T) { // P13.3: as with power; there is none behind it either
	down := []step{replaces("ab"), appends("cd"), fuse(0), syncs().fails(api.ErrDown)}
	holds(t, 9, "`bcd", 2, append(slices.Clone(down), turns(0, 1))...)
	holds(t, 9, "ab\x9cd", 2, append(slices.Clone(down), turns(2, 255))...)
	s := behind(t, 9, append(down, turns(3, 255), turns(3, 255), turns(1, 0))...)
	reads(t, s, "abcd")
	refuses(t, s)
	fused := behind(t, 9, replaces("ab"), fuse(0), turns(1, 1)) // the fuse stays as it was
	reads(t, fused, "ac")
	refuses(t, fused)
}

// model is a store by the document's words.
type model struct {
	room         int
	sure, loose  []byte // those that are durable, and those behind them
	power, fused bool
	fuse         int
}

func newModel(room int) *model { return &model{room: room, power: true} }

func (m *model) all() []byte { return slices.Concat(m.sure, m.loose) }

func (m *model) burns() bool {
	if m.power && m.fused {
		m.power = m.fuse > 0
		m.fuse--
	}
	return m.power
}

func (m *model) append(b []byte) api.Errno {
	switch {
	case !m.burns():
		return api.ErrDown
	case len(m.sure)+len(m.loose)+len(b) > m.room:
		return api.ErrFull
	}
	m.loose = slices.Concat(m.loose, b)
	return api.OK
}

func (m *model) sync() api.Errno {
	if !m.burns() {
		return api.ErrDown
	}
	m.sure, m.loose = m.all(), nil
	return api.OK
}

func (m *model) replace(b []byte) api.Errno {
	switch {
	case !m.burns():
		return api.ErrDown
	case len(b) > m.room:
		return api.ErrFull
	}
	m.sure, m.loose = slices.Clone(b), nil
	return api.OK
}

func (m *model) setFuse(n int) api.Errno {
	m.fused, m.fuse = n >= 0, n
	return api.OK
}

func (m *model) crash(kept int) api.Errno {
	for i, b := range m.loose {
		if i < kept {
			m.sure = append(m.sure, b)
		}
	}
	m.loose, m.power, m.fused = nil, true, false
	return api.OK
}

func (m *model) turn(at int, by byte) api.Errno {
	for i := range m.sure {
		if i == at {
			m.sure[i] ^= by
			return api.OK
		}
	}
	for i := range m.loose {
		if i+len(m.sure) == at {
			m.loose[i] ^= by
			return api.OK
		}
	}
	return api.ErrName
}

// both is a call on a store and the same one on its model.
type both struct {
	step
	model func(*model) api.Errno
}

func bothAppend(text string) both {
	return both{appends(text), func(m *model) api.Errno { return m.append([]byte(text)) }}
}

func bothReplace(text string) both {
	return both{replaces(text), func(m *model) api.Errno { return m.replace([]byte(text)) }}
}

func bothSync() both { return both{syncs(), (*model).sync} }

func bothFuse(n int) both { return both{fuse(n), func(m *model) api.Errno { return m.setFuse(n) }} }

func bothCrash(kept int) both {
	return both{crash(kept), func(m *model) api.Errno { return m.crash(kept) }}
}

func bothTurn(at int, by byte) both {
	return both{turns(at, by), func(m *model) api.Errno { return m.turn(at, by) }}
}

// agree: the call answers as the model does, and the bytes are the same behind it.
func agree(t *testing.T, s *store.Store, m *model, x both) bool {
	t.Helper()
	got, want := x.call(s), x.model(m)
	if got != want || !bytes.Equal(s.Read(), m.all()) {
		t.Errorf("%s: error %d, want %d; Read %.60q, want %.60q", x.words, got, want, s.Read(), m.all())
		return false
	}
	return true
}

func TestAllShortRuns(t *testing.T) { // P13.1 to P13.4: all runs of five calls, on stores of several sizes, as the document's words have it
	calls := []both{
		bothAppend("a"), bothAppend("bc"), bothSync(), bothReplace("x"), bothReplace("xyz"), bothFuse(0), bothFuse(2), bothFuse(-1),
		bothCrash(-1), bothCrash(1), bothTurn(0, 255), bothTurn(1, 1),
	}
	const length = 5
	runs := int(math.Pow(float64(len(calls)), length))
	for room := range 4 {
		for number := range runs {
			run := []both{bothCrash(0)} // the last one: it shows what was durable
			for rest := number; len(run) <= length; rest /= len(calls) {
				run = slices.Insert(run, 0, calls[rest%len(calls)])
			}
			s, m := made(t, room), newModel(room)
			for i, x := range run {
				if !agree(t, s, m, x) {
					t.Fatalf("room %d, call %d of %v", room, i, wordsOf(run))
				}
			}
		}
	}
}

func wordsOf(run []both) (words []string) {
	for _, x := range run {
		words = append(words, x.words)
	}
	return words
}

// anyCall is one of those that are known for a store of that room, its numbers and bytes by chance.
func anyCall(r *rand.Rand, room int) both {
	text := make([]byte, r.Intn(room/4+2))
	if r.Intn(20) == 0 {
		text = make([]byte, r.Intn(room+3))
	}
	r.Read(text)
	switch r.Intn(12) {
	case 0, 1, 2, 3:
		return bothAppend(string(text))
	case 4, 5:
		return bothSync()
	case 6:
		return bothReplace(string(text))
	case 7:
		return bothFuse(r.Intn(12) - 3)
	case 8, 9:
		return bothCrash(r.Intn(room/3+4) - 2)
	}
	return bothTurn(r.Intn(room+3)-1, byte(r.Intn(256)))
}

func TestLongRuns(t *testing.T) { // P13.1 to P13.4, P0, P5: as the document's words have it, for stores of many sizes
	for _, room := range []int{0, 1, 2, 5, 10, 100, 1000, 5000} {
		for seed := range 3 {
			r := rand.New(rand.NewSource(int64(seed)))
			s, m := made(t, room), newModel(room)
			for i := range 4000 {
				if !agree(t, s, m, anyCall(r, room)) {
					t.Fatalf("room %d, seed %d, call %d", room, seed, i)
				}
			}
		}
	}
}

func TestCrashAnywhere(t *testing.T) { // P13.4, P5: behind any calls and any crash all durable bytes are there, and the bytes are a prefix of those before
	r := rand.New(rand.NewSource(13))
	for range 2000 {
		room := r.Intn(40)
		s := made(t, room)
		var durable []byte
		for range 30 {
			x := anyCall(r, room)
			before := s.Read()
			err := x.call(s)
			switch after := s.Read(); {
			case strings.HasPrefix(x.words, "Crash"):
				if !bytes.HasPrefix(after, durable) || !bytes.HasPrefix(before, after) {
					t.Fatalf("%s: of %q, %q of which was durable, %q stayed", x.words, before, durable, after)
				}
				durable = after
			case x.words == "Sync" && err == api.OK, strings.HasPrefix(x.words, "Replace") && err == api.OK:
				durable = after
			case x.words == "Turn":
				durable = after[:len(durable)] // turned bytes aside
			}
		}
	}
}

func TestNothingChangesWithoutPower(t *testing.T) { // P13.4: calls by chance: neither the bytes, nor what is durable
	r := rand.New(rand.NewSource(14))
	for range 2000 {
		room, seed := 4+r.Intn(40), r.Int63()
		start := []step{replaces("ab"), appends("cd"), fuse(0), syncs().fails(api.ErrDown)}
		s := behind(t, room, start...)
		calls := rand.New(rand.NewSource(seed))
		for range 20 {
			x := anyCall(calls, room)
			if strings.HasPrefix(x.words, "Crash") || x.words == "Turn" {
				continue
			}
			if err := x.call(s); err != api.ErrDown && !strings.HasPrefix(x.words, "Fuse") {
				t.Fatalf("%s without power: error %d", x.words, err)
			}
		}
		reads(t, s, "abcd")
		s.Crash(0)
		reads(t, s, "ab")
	}
}

func TestNoneIsNil(t *testing.T) { // R2: nil bytes are as none
	for _, none := range [][]byte{nil, {}, make([]byte, 0, 9), []byte("abc")[:0]} {
		s := behind(t, 3, replaces("abc"))
		if err := s.Append(none); err != api.OK {
			t.Errorf("Append of none: error %d", err)
		}
		reads(t, s, "abc")
		if err := s.Replace(none); err != api.OK {
			t.Errorf("Replace by none: error %d", err)
		}
		reads(t, s, "")
		s.Fuse(1)
		if err := s.Append(none); err != api.OK {
			t.Errorf("Append of none with a fuse: error %d", err)
		}
		if err := s.Append(none); err != api.ErrDown {
			t.Errorf("Append of none without power: error %d", err)
		}
		if err := s.Replace(none); err != api.ErrDown {
			t.Errorf("Replace by none without power: error %d", err)
		}
	}
}

// scribble writes over the bytes, and over what is behind their end, as far as their memory goes.
func scribble(b []byte) {
	all := b[:cap(b)]
	for i := range all {
		all[i] = '#'
	}
}

func TestArgumentsAreNotKept(t *testing.T) { // R3: what is written into the bytes after Append or Replace changes nothing
	b := []byte("abcdefghij")
	s := made(t, 20)
	for _, part := range [][]byte{b[:3], b[3:6], b[6:6], b[6:]} {
		if err := s.Append(part); err != api.OK {
			t.Fatalf("error %d", err)
		}
	}
	scribble(b)
	reads(t, s, "abcdefghij")
	for _, length := range []int{1, 3, 100, 5000} {
		text := strings.Repeat("xyz", length)
		replaced, first, more := made(t, 20000), made(t, 20000), []byte(text)
		first.Append(more)
		replaced.Replace(more)
		scribble(more)
		reads(t, first, text)
		reads(t, replaced, text)
		replaced.Append([]byte("d"))
		reads(t, replaced, text+"d")
		first.Sync()
		first.Crash(0)
		reads(t, first, text)
	}
}

func TestArgumentsStay(t *testing.T) { // R3: nothing is written into what was handed in, nor behind its end
	b := []byte("abcdefghij")
	for _, first := range []func(*store.Store, []byte) api.Errno{(*store.Store).Append, (*store.Store).Replace} {
		s := made(t, 20)
		if err := first(s, b[2:5]); err != api.OK {
			t.Fatalf("error %d", err)
		}
		s.Append([]byte("###"))
		s.Turn(0, 255)
		s.Turn(4, 255)
		s.Sync()
		s.Append(b[5:])
		s.Turn(7, 255)
		s.Crash(1)
		s.Replace(b[:4])
		s.Turn(3, 255)
		s.Append([]byte("###"))
		s.Append(make([]byte, 21))
		s.Crash(0)
		scribble(s.Read())
		if string(b) != "abcdefghij" {
			t.Errorf("the bytes became %s", b)
		}
	}
}

func TestResultsAreTheCallers(t *testing.T) { // R3: what is written into the bytes that were read changes nothing in the store
	for _, steps := range [][]step{
		{appends("abc")},
		{replaces("abc")},
		{appends("ab"), syncs(), appends("cd"), crash(1)},
		{replaces("abcdefgh"), replaces("abc")},
		{appends("a"), appends("b"), appends("c")},
		{appends("abc"), fuse(0), syncs().fails(api.ErrDown)},
	} {
		s := behind(t, 9, steps...)
		first, second := s.Read(), s.Read()
		scribble(first)
		if string(second) != "abc" {
			t.Errorf("bytes that were read became %s", second)
		}
		reads(t, s, "abc")
		s.Crash(9)
		reads(t, s, "abc")
		scribble(append(second, "and more"...))
		s.Append([]byte("d"))
		reads(t, s, "abcd")
	}
	s := behind(t, 9, replaces("abc"))
	b := s.Read()
	s.Replace(b) // the store's own bytes, handed in again
	s.Append(b)
	scribble(b)
	reads(t, s, "abcabc")
}

func TestReadStays(t *testing.T) { // R3: what later calls do is not seen in bytes that were read
	s := behind(t, 9, replaces("ab"), appends("cd"))
	b := s.Read()
	for _, x := range []step{turns(0, 1), turns(3, 1), appends("e"), crash(1), turns(2, 1), replaces("xyz"), turns(1, 7), replaces(""), appends("wwww")} {
		if err := x.call(s); err != api.OK {
			t.Fatalf("%s: error %d", x.words, err)
		}
		if string(b) != "abcd" {
			t.Fatalf("behind %s the bytes that were read became %q", x.words, b)
		}
	}
}

func TestTwoStores(t *testing.T) { // R4: what is done to one is not seen in another
	a, b := behind(t, 4, replaces("ab")), behind(t, 9, replaces("ab"))
	shared := []byte("cd") // the same bytes in two stores
	a.Append(shared)
	b.Append(shared)
	a.Turn(2, 255)
	reads(t, b, "abcd")
	a.Fuse(0)
	a.Sync()
	reads(t, a, "ab\x9cd")
	if err := b.Sync(); err != api.OK {
		t.Errorf("error %d", err)
	}
	a.Crash(0)
	reads(t, a, "ab")
	reads(t, b, "abcd")
	a.Replace(b.Read())
	b.Turn(0, 1)
	reads(t, a, "abcd")
	if err := a.Append([]byte("e")); err != api.ErrFull {
		t.Errorf("error %d", err)
	}
	if err := b.Append([]byte("e")); err != api.OK {
		t.Errorf("error %d", err)
	}
	if _, err := store.New(-1); err != api.ErrArg {
		t.Errorf("error %d", err)
	}
	reads(t, made(t, 4), "")
	reads(t, a, "abcd")
	reads(t, b, "`bcde")
}

// script is the answers of the same calls on a store of its own, as one text.
func script(t *testing.T) string {
	s := made(t, 60)
	r := rand.New(rand.NewSource(5))
	var answers strings.Builder
	for range 2000 {
		err := anyCall(r, 60).call(s)
		answers.WriteString(strconv.Itoa(int(err)) + " " + string(s.Read()) + "\n")
	}
	return answers.String()
}

func TestSameCallsSameAnswers(t *testing.T) { // R4: and nothing of what is done to other stores
	want := script(t)
	for room := range 30 {
		s := behind(t, room, appends(strings.Repeat("a", room)), fuse(0), syncs().fails(api.ErrDown))
		if script(t) != want {
			t.Fatal("other answers of the same calls")
		}
		reads(t, s, strings.Repeat("a", room))
	}
}

func TestSeveralGoroutines(t *testing.T) { // R5: each with a store of its own
	want := script(t)
	var group sync.WaitGroup
	for range 8 {
		group.Go(func() {
			if script(t) != want {
				t.Error("other answers in a goroutine")
			}
		})
	}
	group.Wait()
}

func TestImports(t *testing.T) { // R6, and the map: store imports api alone
	files, err := filepath.Glob("*.go")
	if err != nil || len(files) == 0 {
		t.Fatal("no files", err)
	}
	for _, name := range files {
		if strings.HasSuffix(name, "_test.go") {
			continue
		}
		file, err := parser.ParseFile(token.NewFileSet(), name, nil, 0)
		if err != nil {
			t.Fatal(err)
		}
		ast.Inspect(file, func(node ast.Node) bool {
			if i, ok := node.(*ast.ImportSpec); ok && strings.Contains(i.Path.Value, "bartizan") && i.Path.Value != `"bartizan/api"` {
				t.Errorf("%s imports %s", name, i.Path.Value)
			}
			return true
		})
	}
}
