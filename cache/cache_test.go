package cache_test

import (
	"go/ast"
	"go/parser"
	"go/token"
	"math"
	"math/rand"
	"path/filepath"
	"reflect"
	"runtime"
	"slices"
	"strconv"
	"strings"
	"sync"
	"testing"
	"weak"

	"bartizan/api"
	"bartizan/cache"
)

// made is an empty table, where New must not refuse.
func made[K comparable, V any](t *testing.T, most int) *cache.Table[K, V] {
	t.Helper()
	table, err := cache.New[K, V](most)
	if err != api.OK || table == nil {
		t.Fatalf("New(%d): error %d", most, err)
	}
	return table
}

// filled is a table with the keys given, each with ten times itself as its value.
func filled(t *testing.T, most int, keys ...int) *cache.Table[int, int] {
	t.Helper()
	table := made[int, int](t, most)
	for _, k := range keys {
		table.Put(k, 10*k)
	}
	return table
}

// puts: Put of k and v answers the key removed, or none.
func puts[K comparable, V any](t *testing.T, table *cache.Table[K, V], k K, v V, removed ...K) {
	t.Helper()
	var want K
	if len(removed) > 0 {
		want = removed[0]
	}
	if got, full := table.Put(k, v); got != want || full != (len(removed) > 0) {
		t.Errorf("Put(%v, %v): %v, %t, want %v, %t", k, v, got, full, want, len(removed) > 0)
	}
}

// has: Get of k is v.
func has[K comparable, V any](t *testing.T, table *cache.Table[K, V], k K, v V) {
	t.Helper()
	if got, present := table.Get(k); !present || !reflect.DeepEqual(got, v) {
		t.Errorf("Get(%v): %v, %t, want %v, true", k, got, present, v)
	}
}

// hasNot: Get of k is none; beside false the value is zero (R1).
func hasNot[K comparable, V any](t *testing.T, table *cache.Table[K, V], k K) {
	t.Helper()
	var zero V
	if got, present := table.Get(k); present || !reflect.DeepEqual(got, zero) {
		t.Errorf("Get(%v): %v, %t, want %v, false", k, got, present, zero)
	}
}

// drops: Drop of k answers present.
func drops[K comparable, V any](t *testing.T, table *cache.Table[K, V], k K, present bool) {
	t.Helper()
	if got := table.Drop(k); got != present {
		t.Errorf("Drop(%v): %t, want %t", k, got, present)
	}
}

// keeps: the keys, the oldest first, and their number.
func keeps[K comparable, V any](t *testing.T, table *cache.Table[K, V], want ...K) {
	t.Helper()
	if got := table.Keys(); !slices.Equal(got, want) {
		t.Errorf("Keys: %v, want %v", got, want)
	}
	if got := table.Len(); got != len(want) {
		t.Errorf("Len: %d, want %d", got, len(want))
	}
}

func TestExample(t *testing.T) { // P11.1: the chapter's example
	table := made[int, string](t, 1)
	puts(t, table, 1, "one")
	puts(t, table, 2, "two", 1)
	hasNot(t, table, 1)
	has(t, table, 2, "two")
	keeps(t, table, 2)
}

func TestNew(t *testing.T) { // P11.1, R1: the ends of the range, and numbers far away
	for _, most := range []int{1, 2, 3, 20, 999, 1000} {
		table := made[int, int](t, most)
		keeps(t, table)
		hasNot(t, table, 0)
		drops(t, table, 0, false)
	}
	for _, most := range []int{
		0, -1, -2, -1000, -1001, 1001, 1002, 1024, 65536, math.MaxInt32, math.MinInt32, math.MaxUint32 + 2, 1<<32 + 1000,
		-1 << 32, math.MaxInt, math.MaxInt - 1, math.MinInt, math.MinInt + 1, math.MinInt + 1000,
	} {
		if table, err := cache.New[int, int](most); err != api.ErrArg || table != nil {
			t.Errorf("New(%d): error %d, a table: %t", most, err, table != nil)
		}
		if table, err := cache.New[api.Word, []byte](most); err != api.ErrArg || table != nil {
			t.Errorf("New(%d): error %d, a table: %t", most, err, table != nil)
		}
	}
}

func TestMostIsTheSpace(t *testing.T) { // P11.1: of every size, so many keys have room, and the next one has not
	for most := 1; most <= 1000; most++ {
		table := made[int, int](t, most)
		for k := 1; k <= most; k++ {
			if removed, full := table.Put(k, k); full || removed != 0 || table.Len() != k {
				t.Fatalf("most %d: Put(%d): %d, %t, Len %d", most, k, removed, full, table.Len())
			}
		}
		for k := 1; k <= 2; k++ {
			if removed, full := table.Put(most+k, 0); !full || removed != k || table.Len() != most {
				t.Fatalf("most %d: Put of %d more: %d, %t, Len %d", most, k, removed, full, table.Len())
			}
		}
	}
}

func TestPutWithRoom(t *testing.T) { // P11.1: the zero key and false
	table := made[string, int](t, 3)
	puts(t, table, "a", 1)
	keeps(t, table, "a")
	puts(t, table, "b", 2)
	keeps(t, table, "a", "b")
	puts(t, table, "", 3)
	keeps(t, table, "a", "b", "")
	has(t, table, "a", 1)
	has(t, table, "b", 2)
	has(t, table, "", 3)
}

func TestPutOfPresent(t *testing.T) { // P11.1: the value is the new one; its age and the number of keys stay, with room or without
	for _, most := range []int{3, 4, 1000} {
		for _, k := range []int{1, 2, 3} {
			table := filled(t, most, 1, 2, 3)
			for _, v := range []int{7, 7, -8, 0, 9} {
				puts(t, table, k, v)
				has(t, table, k, v)
				keeps(t, table, 1, 2, 3)
			}
			for _, other := range []int{1, 2, 3} {
				if other != k {
					has(t, table, other, 10*other)
				}
			}
		}
	}
	table := filled(t, 3, 1, 2, 3)
	puts(t, table, 1, 11)
	puts(t, table, 4, 40, 1) // still the oldest
	puts(t, table, 2, 22)
	puts(t, table, 4, 44)
	puts(t, table, 5, 50, 2)
	puts(t, table, 6, 60, 3)
	puts(t, table, 7, 70, 4)
	keeps(t, table, 5, 6, 7)
	one := filled(t, 1, 1)
	puts(t, one, 1, 5)
	has(t, one, 1, 5)
	keeps(t, one, 1)
}

func TestPutWithoutRoom(t *testing.T) { // P11.1: the oldest key and true
	table := filled(t, 3, 1, 2, 3)
	puts(t, table, 4, 40, 1)
	keeps(t, table, 2, 3, 4)
	hasNot(t, table, 1)
	puts(t, table, 5, 50, 2)
	keeps(t, table, 3, 4, 5)
	puts(t, table, 6, 60, 3)
	keeps(t, table, 4, 5, 6)
	for _, k := range []int{4, 5, 6} {
		has(t, table, k, 10*k)
	}
}

func TestPutRemovesTheZeroKey(t *testing.T) { // P11.1: a removed key that is zero goes with true, one that is not removed with false
	table := made[int, int](t, 1)
	puts(t, table, 0, 5)
	puts(t, table, 1, 6, 0)
	puts(t, table, 0, 7, 1)
	puts(t, table, 0, 8)
	has(t, table, 0, 8)
}

func TestPutOfGone(t *testing.T) { // P11.1: a key that was removed, or dropped, is a new one: the newest
	table := filled(t, 3, 1, 2, 3)
	puts(t, table, 4, 40, 1)
	puts(t, table, 1, 11, 2)
	keeps(t, table, 3, 4, 1)
	has(t, table, 1, 11)
	drops(t, table, 3, true)
	puts(t, table, 3, 33)
	keeps(t, table, 4, 1, 3)
	has(t, table, 3, 33)
	drops(t, table, 1, true)
	drops(t, table, 3, true)
	puts(t, table, 3, 34)
	puts(t, table, 1, 12)
	keeps(t, table, 4, 3, 1)
	puts(t, table, 5, 50, 4)
	puts(t, table, 6, 60, 3)
	puts(t, table, 7, 70, 1)
}

func TestDropGivesRoom(t *testing.T) { // P11.1, P11.2: after a Drop, a new key removes none
	table := filled(t, 2, 1, 2)
	drops(t, table, 2, true)
	puts(t, table, 3, 30)
	puts(t, table, 4, 40, 1)
	keeps(t, table, 3, 4)
	drops(t, table, 3, true)
	drops(t, table, 4, true)
	puts(t, table, 5, 50)
	puts(t, table, 6, 60)
	puts(t, table, 7, 70, 5)
}

func TestGet(t *testing.T) { // P11.2, R1: keys that are present, never were, were removed, and were dropped
	table := filled(t, 3, 1, 2, 3, 4)
	drops(t, table, 3, true)
	for _, k := range []int{2, 4} {
		has(t, table, k, 10*k)
	}
	for _, k := range []int{1, 3, 0, 5, -2, 2 + 1<<32, math.MaxInt, math.MinInt} {
		hasNot(t, table, k)
	}
	keeps(t, table, 2, 4)
	puts(t, table, 0, 0) // a zero value that is present is not none
	has(t, table, 0, 0)
}

func TestGetChangesNothing(t *testing.T) { // P11.1, P11.2: age is from the first Put, not from the last Get
	table := filled(t, 3, 1, 2, 3)
	for range 5 {
		has(t, table, 1, 10)
		hasNot(t, table, 9)
		keeps(t, table, 1, 2, 3)
	}
	puts(t, table, 4, 40, 1)
}

func TestDrop(t *testing.T) { // P11.2: the oldest, the newest and one between; one that is not present, and one dropped before
	for _, c := range []struct {
		k    int
		left []int
	}{{1, []int{2, 3, 4}}, {2, []int{1, 3, 4}}, {3, []int{1, 2, 4}}, {4, []int{1, 2, 3}}} {
		for _, most := range []int{4, 5, 1000} {
			table := filled(t, most, 1, 2, 3, 4)
			drops(t, table, 9, false)
			drops(t, table, 0, false)
			keeps(t, table, 1, 2, 3, 4)
			drops(t, table, c.k, true)
			keeps(t, table, c.left...)
			hasNot(t, table, c.k)
			drops(t, table, c.k, false)
			keeps(t, table, c.left...)
			for _, k := range c.left {
				has(t, table, k, 10*k)
			}
			puts(t, table, 5, 50)
			keeps(t, table, append(slices.Clone(c.left), 5)...)
		}
	}
	table := filled(t, 2, 1, 2, 3)
	drops(t, table, 1, false) // removed before, to make room
	keeps(t, table, 2, 3)
}

func TestDropOfAll(t *testing.T) { // P11.2: in every order, down to an empty table
	orders := [][]int{{1, 2, 3}, {1, 3, 2}, {2, 1, 3}, {2, 3, 1}, {3, 1, 2}, {3, 2, 1}}
	for _, order := range orders {
		table := filled(t, 3, 1, 2, 3)
		left := []int{1, 2, 3}
		for _, k := range order {
			drops(t, table, k, true)
			left = slices.DeleteFunc(left, func(other int) bool { return other == k })
			keeps(t, table, left...)
		}
		for _, k := range order {
			hasNot(t, table, k)
			drops(t, table, k, false)
		}
		for _, k := range order {
			puts(t, table, k, k)
		}
		keeps(t, table, order...)
	}
}

func TestEmptyTable(t *testing.T) { // P11.2, R2: no keys are nil or empty
	table := made[string, []int](t, 2)
	for range 2 {
		keeps(t, table)
		hasNot(t, table, "")
		hasNot(t, table, "a")
		drops(t, table, "", false)
		drops(t, table, "a", false)
		puts(t, table, "a", []int{1})
		drops(t, table, "a", true)
	}
}

// model is a table by the document's words: keys in their order, and beside each its value.
type model[K comparable, V any] struct {
	most   int
	keys   []K
	values []V
}

func (m *model[K, V]) put(k K, v V) (K, bool) {
	var none K
	for i, other := range m.keys {
		if other == k {
			m.values[i] = v
			return none, false
		}
	}
	removed, full := none, len(m.keys) == m.most
	if full {
		removed, m.keys, m.values = m.keys[0], m.keys[1:], m.values[1:]
	}
	m.keys, m.values = append(m.keys, k), append(m.values, v)
	return removed, full
}

func (m *model[K, V]) get(k K) (v V, present bool) {
	if i := slices.Index(m.keys, k); i >= 0 {
		return m.values[i], true
	}
	return v, false
}

func (m *model[K, V]) drop(k K) bool {
	i := slices.Index(m.keys, k)
	if i < 0 {
		return false
	}
	m.keys, m.values = slices.Delete(m.keys, i, i+1), slices.Delete(m.values, i, i+1)
	return true
}

// agrees: a long run of calls on a table answers as the model does, with keys and values of any kind made of numbers.
func agrees[K comparable, V any](t *testing.T, most, steps int, key func(int) K, value func(int) V) {
	t.Helper()
	r := rand.New(rand.NewSource(int64(most)))
	table, m := made[K, V](t, most), &model[K, V]{most: most}
	for step := range steps {
		k, v := key(r.Intn(2*most+2)), value(step)
		switch r.Intn(6) {
		case 0:
			if got, want := table.Drop(k), m.drop(k); got != want {
				t.Fatalf("most %d, step %d: Drop(%v): %t", most, step, k, got)
			}
		default:
			got, full := table.Put(k, v)
			if want, wantFull := m.put(k, v); got != want || full != wantFull {
				t.Fatalf("most %d, step %d: Put(%v, %v): %v, %t, want %v, %t", most, step, k, v, got, full, want, wantFull)
			}
		}
		k = key(r.Intn(2*most + 2))
		got, present := table.Get(k)
		if want, wantPresent := m.get(k); present != wantPresent || !reflect.DeepEqual(got, want) {
			t.Fatalf("most %d, step %d: Get(%v): %v, %t, want %v, %t", most, step, k, got, present, want, wantPresent)
		}
		if !slices.Equal(table.Keys(), m.keys) || table.Len() != len(m.keys) {
			t.Fatalf("most %d, step %d: Keys %v, Len %d, want %v", most, step, table.Keys(), table.Len(), m.keys)
		}
	}
}

func number(n int) int     { return n }
func text(n int) string    { return strconv.Itoa(n) }
func bytesOf(n int) []byte { return []byte(strconv.Itoa(n)) }

func word(n int) (w api.Word) {
	copy(w[:], strconv.Itoa(n))
	return w
}

type pending struct {
	who      string
	nonce    api.Word
	protocol int
}

func pendingOf(n int) pending { return pending{text(n % 3), word(n / 3), 1 + n%2} }

func TestLongRuns(t *testing.T) { // P11.1, P11.2, P6: as the document's words have it, for tables of many sizes
	for _, most := range []int{1, 2, 3, 4, 5, 7, 8, 9, 20, 64, 100} {
		agrees(t, most, 3000, number, number)
	}
	for _, most := range []int{999, 1000} {
		agrees(t, most, 8000, number, text)
	}
}

func TestKinds(t *testing.T) { // P11.1, P11.2: keys and values of several kinds
	for _, most := range []int{1, 2, 20} {
		agrees(t, most, 1000, number, bytesOf)
		agrees(t, most, 1000, func(n int) int64 { return int64(n) - 2 }, pendingOf)
		agrees(t, most, 1000, func(n int) byte { return byte(n) }, func(n int) bool { return n%2 == 0 })
		agrees(t, most, 1000, func(n int) rune { return rune('a' + n) }, func(n int) rune { return rune(n) })
		agrees(t, most, 1000, func(n int) float64 { return float64(n) / 4 }, func(n int) float64 { return float64(n) / 8 })
		agrees(t, most, 1000, text, number)
		agrees(t, most, 1000, text, text)
		agrees(t, most, 1000, text, func(n int) []string { return []string{text(n), text(-n)} })
		agrees(t, most, 1000, func(n int) string { return strings.Repeat("a", n) }, func(n int) map[int]int { return map[int]int{n: n} })
		agrees(t, most, 1000, pendingOf, word)
		agrees(t, most, 1000, pendingOf, func(n int) [][]byte { return [][]byte{bytesOf(n), nil, bytesOf(n + 1)} })
		agrees(t, most, 1000, word, pendingOf)
		agrees(t, most, 1000, word, func(n int) []pending { return []pending{pendingOf(n), pendingOf(n + 1)} })
		agrees(t, most, 1000, func(n int) [2]string { return [2]string{text(n % 2), text(n / 2)} }, func(n int) struct{} { return struct{}{} })
		agrees(t, most, 1000, func(n int) [0]int { return [0]int{} }, number)
		agrees(t, most, 1000, func(n int) bool { return n%2 == 0 }, func(n int) error { return api.Errno(n) })
		agrees(t, most, 1000, func(n int) any { return []any{n, text(n), nil, word(n)}[n%4] }, func(n int) any { return n })
	}
}

func TestKeysThatAreAlmostEqual(t *testing.T) { // P11.1: one part alone makes a key another one
	keys := []pending{{}, {who: "a"}, {who: "b"}, {nonce: word(1)}, {nonce: api.Word{15: 1}}, {protocol: 1}, {protocol: 2}, {"a", word(1), 1}, {"a", word(1), 2}, {"b", word(1), 1}}
	table := made[pending, int](t, len(keys))
	for i, k := range keys {
		puts(t, table, k, i)
	}
	keeps(t, table, keys...)
	for i, k := range keys {
		has(t, table, k, i)
	}
	for i, k := range keys {
		drops(t, table, k, true)
		keeps(t, table, keys[i+1:]...)
	}
}

func TestTheorem(t *testing.T) { // P11.3: after every Put of a long run
	r := rand.New(rand.NewSource(9))
	for _, most := range []int{1, 2, 1000} {
		for _, run := range []struct {
			steps int
			key   func(step int) int
		}{
			{3*most + 10, number},
			{most + 1, number},
			{3 * (most + 1), func(step int) int { return step % (most + 1) }},
			{3 * (most + 2), func(step int) int { return -step % (most + 2) }},
			{5000, func(step int) int { return step * step % (2*most + 3) }},
			{5000, func(int) int { return r.Int() }},
		} {
			theorem(t, most, run.steps, run.key)
		}
	}
}

func theorem(t *testing.T, most, steps int, key func(step int) int) {
	t.Helper()
	table := made[int, int](t, most)
	for step := range steps {
		k := key(step)
		before := table.Keys()
		removed, full := table.Put(k, step)
		after := table.Keys()
		if v, present := table.Get(k); !present || v != step || !slices.Contains(after, k) {
			t.Fatalf("most %d, step %d: the key put last is not present", most, step)
		}
		if len(after) > most || table.Len() != len(after) {
			t.Fatalf("most %d, step %d: %d keys, Len %d", most, step, len(after), table.Len())
		}
		if full != (len(before) == most && !slices.Contains(before, k)) || full && removed != before[0] || !full && removed != 0 {
			t.Fatalf("most %d, step %d: removed %d, %t", most, step, removed, full)
		}
		if _, present := table.Get(removed); full && present {
			t.Fatalf("most %d, step %d: %d, which was removed, is present", most, step, removed)
		}
	}
}

func TestTwoTables(t *testing.T) { // P11.1, P11.2: what is done to one is not seen in another, of the same kind or not
	a, b := filled(t, 2, 1, 2), filled(t, 3, 1, 2)
	c := made[string, int](t, 2)
	puts(t, a, 3, 30, 1)
	keeps(t, b, 1, 2)
	has(t, b, 1, 10)
	puts(t, b, 1, 5)
	puts(t, b, 3, 6)
	hasNot(t, a, 1)
	has(t, a, 3, 30)
	drops(t, a, 2, true)
	has(t, b, 2, 20)
	keeps(t, b, 1, 2, 3)
	keeps(t, c)
	puts(t, c, "2", 7)
	drops(t, b, 2, true)
	has(t, c, "2", 7)
	keeps(t, a, 3)
	if _, err := cache.New[int, int](0); err != api.ErrArg {
		t.Errorf("New(0): error %d", err)
	}
	keeps(t, b, 1, 3)
}

func TestKeysResultIsTheCallers(t *testing.T) { // R3: what is written into it, or behind its end, changes nothing
	table := made[int, int](t, 5)
	m := &model[int, int]{most: 5}
	r := rand.New(rand.NewSource(5))
	for step := range 500 {
		k := r.Intn(9)
		if r.Intn(4) == 0 {
			table.Drop(k)
			m.drop(k)
		} else {
			table.Put(k, step)
			m.put(k, step)
		}
		first, second := table.Keys(), table.Keys()
		scribbled := first[:cap(first)]
		for i := range scribbled {
			scribbled[i] = -7
		}
		slices.Reverse(first)
		_ = append(first, -8, -9)
		if !slices.Equal(second, m.keys) {
			t.Fatalf("step %d: another result became %v", step, second)
		}
		keeps(t, table, m.keys...)
		hasNot(t, table, -7)
		for i, k := range m.keys {
			has(t, table, k, m.values[i])
		}
	}
}

func TestEarlierKeysStay(t *testing.T) { // R3: what later calls do is not seen in an earlier result
	table := filled(t, 3, 1, 2, 3)
	keys := table.Keys()
	puts(t, table, 4, 40, 1)
	drops(t, table, 3, true)
	puts(t, table, 5, 50)
	puts(t, table, 6, 60, 2)
	if !slices.Equal(keys, []int{1, 2, 3}) {
		t.Errorf("an earlier result became %v", keys)
	}
	keeps(t, table, 4, 5, 6)
}

func TestArgumentsStay(t *testing.T) { // R3: a value that is a slice is not written into
	table := made[string, []int](t, 2)
	values := [][]int{{1, 2, 3}, {4, 5}, {6}, {}}
	for i, v := range values {
		table.Put(text(i), v)
		table.Put("0", v)
		table.Drop(text(i - 1))
	}
	if !reflect.DeepEqual(values, [][]int{{1, 2, 3}, {4, 5}, {6}, {}}) {
		t.Errorf("the values became %v", values)
	}
}

// script is the answers of the same calls on a table of their own, as one list.
func script(t *testing.T) []int {
	table := made[int, int](t, 30)
	r := rand.New(rand.NewSource(3))
	one := map[bool]int{true: 1}
	var answers []int
	for step := range 800 {
		k := r.Intn(80)
		removed, full := table.Put(k, step)
		dropped := table.Drop(r.Intn(80))
		v, present := table.Get(r.Intn(80))
		answers = append(answers, removed, one[full], one[dropped], v, one[present], table.Len())
		answers = append(answers, table.Keys()...)
	}
	return answers
}

func TestSameCallsSameAnswers(t *testing.T) { // R4: no order of a map is seen, nor what is done to other tables
	want := script(t)
	for range 30 {
		table := filled(t, 1000)
		for k := range 500 {
			table.Put(k, k)
		}
		if !slices.Equal(script(t), want) {
			t.Fatal("other answers of the same calls")
		}
	}
}

func TestSeveralGoroutines(t *testing.T) { // R5: each with a table of its own
	want := script(t)
	var group sync.WaitGroup
	for range 8 {
		group.Go(func() {
			if !slices.Equal(script(t), want) {
				t.Error("other answers in a goroutine")
			}
		})
	}
	group.Wait()
}

func TestKeysThatEqualNothing(t *testing.T) { // P0, P11.3: no panic; never present, but they count, and make room
	list := any([]int{1})
	for _, odd := range []any{math.NaN(), list, map[int]int{}, func() {}, [1]any{list}, struct{ v any }{list}, struct{ v any }{math.NaN()}} {
		table := made[any, int](t, 3)
		drops(t, table, odd, false)
		hasNot(t, table, odd)
		puts(t, table, 1, 10)
		for range 2 {
			if removed, full := table.Put(odd, 5); full || removed != nil {
				t.Errorf("Put(%T): %v, %t", odd, removed, full)
			}
			hasNot(t, table, odd)
			drops(t, table, odd, false)
		}
		if table.Len() != 3 || len(table.Keys()) != 3 || table.Keys()[0] != 1 {
			t.Errorf("%T: %d keys", odd, table.Len())
		}
		has(t, table, 1, 10)
		puts(t, table, 2, 20, any(1))
		drops(t, table, 2, true)
		puts(t, table, 3, 30)
		if removed, full := table.Put(4, 40); !full || reflect.TypeOf(removed) != reflect.TypeOf(odd) {
			t.Errorf("Put: %T, %t, want a %T", removed, full, odd)
		}
		if _, full := table.Put(5, 50); !full {
			t.Errorf("%T: not removed", odd)
		}
		keeps[any](t, table, 3, 4, 5)
	}
	table := made[float64, int](t, 2)
	for range 100 {
		table.Put(math.NaN(), 1)
		hasNot(t, table, math.NaN())
	}
	if table.Len() != 2 || len(table.Keys()) != 2 {
		t.Errorf("%d keys of 2", table.Len())
	}
	table.Put(0, 1)
	puts(t, table, math.Copysign(0, -1), 2) // equals 0; the NaN before it is not removed
	has(t, table, 0, 2)
}

func TestNothingIsKeptOfTheGone(t *testing.T) { // what was removed or dropped is not held, in the map or in the order
	type long struct{ bytes [100]byte }
	const count = 100
	for _, way := range []string{"put", "drop", "drop from the newest"} {
		table := made[*long, *long](t, count)
		var gone []weak.Pointer[long]
		for range count {
			k, v := new(long), new(long)
			table.Put(k, v)
			gone = append(gone, weak.Make(k), weak.Make(v))
		}
		keys := table.Keys()
		if way == "drop from the newest" {
			slices.Reverse(keys)
		}
		for _, k := range keys {
			if way == "put" {
				table.Put(new(long), nil)
			} else {
				table.Drop(k)
			}
		}
		runtime.GC()
		held := 0
		for _, p := range gone {
			if p.Value() != nil {
				held++
			}
		}
		if held > 2 { // the machine may hold the last ones a while
			t.Errorf("%s: %d of %d are held", way, held, 2*count)
		}
		runtime.KeepAlive(table)
	}
}

func TestImports(t *testing.T) { // R6, and the map: cache imports api alone
	files, err := filepath.Glob("*.go")
	if err != nil || len(files) == 0 {
		t.Fatal("no files", err)
	}
	for _, name := range files {
		if strings.HasSuffix(name, "_test.go") {
			continue
		}
		file, err := parser.ParseFile(token.NewFileSet(), name, nil, 0)
		if err != nil {
			t.Fatal(err)
		}
		ast.Inspect(file, func(node ast.Node) bool {
			if i, ok := node.(*ast.ImportSpec); ok && strings.Contains(i.Path.Value, "bartizan") && i.Path.Value != `"bartizan/api"` {
				t.Errorf("%s imports %s", name, i.Path.Value)
			}
			return true
		})
	}
}
