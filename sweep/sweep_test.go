package sweep_test

import (
	"go/ast"
	"go/parser"
	"go/token"
	"math"
	"math/rand"
	"path/filepath"
	"slices"
	"strconv"
	"strings"
	"sync"
	"testing"

	"bartizan/api"
	"bartizan/span"
	"bartizan/sweep"
)

const (
	far   = int64(api.Far)
	least = int64(math.MinInt64)
	most  = int64(math.MaxInt64)
)

// same is n intervals that are alike.
func same(n int, s api.Span) []api.Span { return slices.Repeat([]api.Span{s}, n) }

// row is n intervals from i*step to i*step+width.
func row(n int, step, width int64) []api.Span {
	var l []api.Span
	for i := range int64(n) {
		l = append(l, api.Span{Lo: i * step, Hi: i*step + width})
	}
	return l
}

// nested is n intervals, each of them within the one before it.
func nested(n int) []api.Span {
	var l []api.Span
	for i := range int64(n) {
		l = append(l, api.Span{Lo: i, Hi: 1000 - i})
	}
	return l
}

// notValid is lists that are not valid.
func notValid() map[string][]api.Span {
	all := map[string][]api.Span{
		"nil":                       nil,
		"empty":                     {},
		"an empty piece of a valid": row(3, 10, 5)[1:1],
		"65":                        same(65, api.Span{Lo: 1, Hi: 5}),
		"65 that lie apart":         row(65, 10, 5),
		"66":                        nested(66),
		"1000":                      same(1000, api.Span{}),
	}
	for name, wrong := range map[string]api.Span{
		"turned": {Lo: 5, Hi: 1}, "turned by one": {Lo: 1}, "before -Far": {Lo: -far - 1, Hi: 5}, "behind Far": {Lo: 1, Hi: far + 1},
		"all before -Far": {Lo: -far - 1, Hi: -far - 1}, "all behind Far": {Lo: far + 1, Hi: far + 1},
		"all of int64": {Lo: least, Hi: most}, "int64 turned": {Lo: most, Hi: least},
	} {
		all[name+", alone"] = []api.Span{wrong}
		for _, n := range []int{2, 3, 7, 64} {
			for _, at := range []int{0, 1, n / 2, n - 2, n - 1} {
				l := same(n, api.Span{Lo: 1, Hi: 5})
				l[at] = wrong
				all[name+", at "+strconv.Itoa(at)+" of "+strconv.Itoa(n)] = l
			}
		}
	}
	return all
}

// randomList is n valid intervals with times from -reach to reach.
func randomList(random *rand.Rand, n int, reach int64) []api.Span {
	l := make([]api.Span, n)
	for i := range l {
		a, b := random.Int63n(2*reach+1)-reach, random.Int63n(2*reach+1)-reach
		l[i] = api.Span{Lo: min(a, b), Hi: max(a, b)}
	}
	return l
}

// manyLists is valid lists of all lengths, with small times.
func manyLists() [][]api.Span {
	random := rand.New(rand.NewSource(7))
	var all [][]api.Span
	for n := 1; n <= 64; n++ {
		for _, reach := range []int64{1, 4, 12, 25} {
			all = append(all, randomList(random, n, reach))
		}
	}
	for n := 1; n <= 8; n++ {
		for range 60 {
			all = append(all, randomList(random, n, 8))
		}
	}
	return append(all, same(5, api.Span{Lo: 2, Hi: 3}), same(64, api.Span{Lo: 7, Hi: 7}), row(3, 10, 5), row(4, 5, 5), row(4, 6, 5))
}

// votesOf is the votes for t by the document's words.
func votesOf(l []api.Span, t int64) int {
	votes := 0
	for _, s := range l {
		if s.Lo <= t && t <= s.Hi {
			votes++
		}
	}
	return votes
}

// fusedOf asks every time from -30 to 30 for its votes.
func fusedOf(l []api.Span, liars int) (api.Span, api.Errno) {
	var fused api.Span
	err := api.ErrTime
	for t := int64(-30); t <= 30; t++ {
		if votesOf(l, t) < len(l)-liars {
			continue
		}
		if err != api.OK {
			fused.Lo, err = t, api.OK
		}
		fused.Hi = t
	}
	return fused, err
}

// mostOf asks every time from -30 to 30 for its votes.
func mostOf(l []api.Span) (int64, int) {
	var at int64
	votes := 0
	for t := int64(-30); t <= 30; t++ {
		if n := votesOf(l, t); n > votes {
			at, votes = t, n
		}
	}
	return at, votes
}

func TestVotes(t *testing.T) { // P7.1, R2
	three := []api.Span{{Lo: 1, Hi: 5}, {Lo: 4, Hi: 9}, {Lo: 20, Hi: 30}}
	wrong := []api.Span{{Lo: 5, Hi: 1}, {Lo: 3, Hi: 4}, {Lo: most, Hi: least}, {Lo: far + 1, Hi: far + 9}, {Lo: least, Hi: -far - 1}, {Lo: least, Hi: most}}
	for _, c := range []struct {
		name string
		l    []api.Span
		t    int64
		want int
	}{
		{"before all", three, -7, 0}, {"just before the first", three, 0, 0}, {"the first time", three, 1, 1}, {"in one", three, 2, 1},
		{"the first of two", three, 4, 2}, {"the last of two", three, 5, 2}, {"just behind two", three, 6, 1}, {"the last time of one", three, 9, 1},
		{"just behind one", three, 10, 0}, {"between", three, 15, 0}, {"just before", three, 19, 0}, {"the first of the last one", three, 20, 1},
		{"the last of all", three, 30, 1}, {"just behind all", three, 31, 0},
		{"three times least", three, least, 0}, {"three times most", three, most, 0},
		{"in all", nested(64), 500, 64}, {"at the first of all", nested(64), 63, 64}, {"just before it", nested(64), 62, 63},
		{"at the last of all", nested(64), 937, 64}, {"just behind it", nested(64), 938, 63}, {"in the outermost", nested(64), 0, 1}, {"in none", nested(64), -1, 0},
		{"the same ones", same(7, api.Span{Lo: 3, Hi: 3}), 3, 7}, {"just before the same ones", same(7, api.Span{Lo: 3, Hi: 3}), 2, 0},
		{"just behind the same ones", same(7, api.Span{Lo: 3, Hi: 3}), 4, 0},
		{"the zero interval", []api.Span{{}}, 0, 1}, {"the zero interval, before", []api.Span{{}}, -1, 0}, {"the zero interval, behind", []api.Span{{}}, 1, 0},
		{"nil", nil, 0, 0}, {"nil, least", nil, least, 0}, {"nil, most", nil, most, 0}, {"empty", []api.Span{}, 0, 0}, {"empty, most", []api.Span{}, most, 0},
		{"not valid: in one turned", wrong, 2, 1}, {"not valid: in one and the whole", wrong, 3, 2}, {"not valid: ends of one turned", wrong, 5, 1},
		{"not valid: beyond Far", wrong, far + 1, 2}, {"not valid: before -Far", wrong, -far - 1, 2}, {"not valid: Far", wrong, far, 1},
		{"not valid: least", wrong, least, 2}, {"not valid: most", wrong, most, 1}, {"not valid: turned alone", wrong[:1], 3, 0},
		{"65", same(65, api.Span{Lo: 1, Hi: 5}), 5, 65}, {"1000", same(1000, api.Span{Lo: 1, Hi: 5}), 1, 1000}, {"1000, but outside", same(1000, api.Span{Lo: 1, Hi: 5}), 6, 0},
		{"the ends of int64", []api.Span{{Lo: least, Hi: least}, {Lo: most, Hi: most}}, most, 1},
		{"the other end of int64", []api.Span{{Lo: least, Hi: least}, {Lo: most, Hi: most}}, least, 1},
		{"-Far", []api.Span{{Lo: -far, Hi: -far}, {Lo: -far, Hi: far}}, -far, 2}, {"Far", []api.Span{{Lo: far, Hi: far}, {Lo: -far, Hi: far}}, far, 2},
	} {
		if got := sweep.Votes(c.l, c.t); got != c.want {
			t.Errorf("%s: %d, want %d", c.name, got, c.want)
		}
	}
}

func TestVotesOfAll(t *testing.T) { // P7.1
	times := []int64{least, least + 1, -far - 1, -far, -2, -1, 0, 1, 2, far, far + 1, most - 1, most}
	var any []api.Span
	for _, lo := range times {
		for _, hi := range times {
			any = append(any, api.Span{Lo: lo, Hi: hi})
		}
	}
	for _, l := range append(manyLists(), any, any[:40], any[40:80], any[100:]) {
		for at := int64(-31); at <= 31; at++ {
			if got, want := sweep.Votes(l, at), votesOf(l, at); got != want {
				t.Fatalf("Votes of %v for %d: %d, want %d", l, at, got, want)
			}
		}
		for _, at := range times {
			if got, want := sweep.Votes(l, at), votesOf(l, at); got != want {
				t.Fatalf("Votes of %v for %d: %d, want %d", l, at, got, want)
			}
		}
	}
}

func TestMost(t *testing.T) { // P7.1: the least time where several share the greatest number
	for _, c := range []struct {
		name  string
		l     []api.Span
		at    int64
		votes int
	}{
		{"one", []api.Span{{Lo: 3, Hi: 9}}, 3, 1},
		{"the zero interval", []api.Span{{}}, 0, 1},
		{"one, before 0", []api.Span{{Lo: -9, Hi: -3}}, -9, 1},
		{"all times", []api.Span{{Lo: -far, Hi: far}}, -far, 1},
		{"the last time", []api.Span{{Lo: far, Hi: far}}, far, 1},
		{"apart", []api.Span{{Lo: 1, Hi: 5}, {Lo: 20, Hi: 30}}, 1, 1},
		{"apart, the later one first", []api.Span{{Lo: 20, Hi: 30}, {Lo: 1, Hi: 5}}, 1, 1},
		{"side by side", []api.Span{{Lo: 6, Hi: 9}, {Lo: 1, Hi: 5}}, 1, 1},
		{"they touch in one time", []api.Span{{Lo: 1, Hi: 5}, {Lo: 5, Hi: 9}}, 5, 2},
		{"they touch, the later one first", []api.Span{{Lo: 5, Hi: 9}, {Lo: 1, Hi: 5}}, 5, 2},
		{"the chapter's", []api.Span{{Lo: 1, Hi: 5}, {Lo: 4, Hi: 9}, {Lo: 20, Hi: 30}}, 4, 2},
		{"one in the other", []api.Span{{Lo: 1, Hi: 9}, {Lo: 3, Hi: 4}}, 3, 2},
		{"one in the other, first", []api.Span{{Lo: 3, Hi: 4}, {Lo: 1, Hi: 9}}, 3, 2},
		{"one time in the other", []api.Span{{Lo: 1, Hi: 9}, {Lo: 9, Hi: 9}}, 9, 2},
		{"the same", []api.Span{{Lo: 3, Hi: 9}, {Lo: 3, Hi: 9}}, 3, 2},
		{"the same, of one time", same(5, api.Span{Lo: -3, Hi: -3}), -3, 5},
		{"two places share it", []api.Span{{Lo: 20, Hi: 30}, {Lo: 1, Hi: 5}, {Lo: 25, Hi: 40}, {Lo: 3, Hi: 9}}, 3, 2},
		{"two places share it, within one", []api.Span{{Lo: 0, Hi: 100}, {Lo: 50, Hi: 60}, {Lo: 10, Hi: 20}}, 10, 2},
		{"the later place has more", []api.Span{{Lo: 1, Hi: 5}, {Lo: 3, Hi: 9}, {Lo: 20, Hi: 30}, {Lo: 22, Hi: 30}, {Lo: 24, Hi: 25}}, 24, 3},
		{"one touches another at its end", []api.Span{{Lo: 0, Hi: 10}, {Lo: 10, Hi: 20}, {Lo: 2, Hi: 3}}, 2, 2},
		{"ends of int64's half", []api.Span{{Lo: -far, Hi: far}, {Lo: far, Hi: far}, {Lo: -far, Hi: -far}}, -far, 2},
		{"64 nested", nested(64), 63, 64},
		{"64 the same", same(64, api.Span{Lo: 7, Hi: 8}), 7, 64},
		{"64 apart", row(64, 10, 5), 0, 1},
		{"64, each with the next two", row(64, 10, 25), 20, 3},
		{"64 that touch", row(64, 10, 10), 10, 2},
	} {
		at, votes, err := sweep.Most(c.l)
		if at != c.at || votes != c.votes || err != api.OK {
			t.Errorf("%s: %d, %d and %d, want %d and %d", c.name, at, votes, err, c.at, c.votes)
		}
		back := slices.Clone(c.l)
		slices.Reverse(back)
		if at, votes, err := sweep.Most(back); at != c.at || votes != c.votes || err != api.OK {
			t.Errorf("%s, from its end: %d, %d and %d, want %d and %d", c.name, at, votes, err, c.at, c.votes)
		}
	}
}

func TestMostOfAll(t *testing.T) { // P7.1: no time has more, and none before it has as many
	for _, l := range manyLists() {
		at, votes, err := sweep.Most(l)
		if wantAt, want := mostOf(l); at != wantAt || votes != want || err != api.OK {
			t.Fatalf("Most of %v: %d, %d and %d, want %d and %d", l, at, votes, err, wantAt, want)
		}
	}
}

func TestMostOfWrong(t *testing.T) { // P7.1, P0, R1, R2
	for name, l := range notValid() {
		if at, votes, err := sweep.Most(l); at != 0 || votes != 0 || err != api.ErrArg {
			t.Errorf("%s: %d, %d and %d", name, at, votes, err)
		}
	}
}

func TestFuse(t *testing.T) { // P7.2: the chapter's example first
	example := []api.Span{{Lo: 1, Hi: 5}, {Lo: 4, Hi: 9}, {Lo: 20, Hi: 30}}
	places := []api.Span{{Lo: 20, Hi: 30}, {Lo: 1, Hi: 5}, {Lo: 25, Hi: 40}, {Lo: 3, Hi: 9}} // two have 3 to 5, and two 25 to 30
	for _, c := range []struct {
		name  string
		l     []api.Span
		liars int
		want  api.Span
		err   api.Errno
	}{
		{"the example", example, 1, api.Span{Lo: 4, Hi: 5}, api.OK},
		{"no liar of the example", example, 0, api.Span{}, api.ErrTime},
		{"two liars of the example", example, 2, api.Span{Lo: 1, Hi: 30}, api.OK},
		{"one, no liar", []api.Span{{Lo: 3, Hi: 9}}, 0, api.Span{Lo: 3, Hi: 9}, api.OK},
		{"the zero interval", []api.Span{{}}, 0, api.Span{}, api.OK},
		{"all times", []api.Span{{Lo: -far, Hi: far}}, 0, api.Span{Lo: -far, Hi: far}, api.OK},
		{"two, no liar", []api.Span{{Lo: 1, Hi: 5}, {Lo: 4, Hi: 9}}, 0, api.Span{Lo: 4, Hi: 5}, api.OK},
		{"two, one liar", []api.Span{{Lo: 1, Hi: 5}, {Lo: 4, Hi: 9}}, 1, api.Span{Lo: 1, Hi: 9}, api.OK},
		{"two apart, one liar", []api.Span{{Lo: 20, Hi: 30}, {Lo: 1, Hi: 5}}, 1, api.Span{Lo: 1, Hi: 30}, api.OK},
		{"two apart, no liar", []api.Span{{Lo: 20, Hi: 30}, {Lo: 1, Hi: 5}}, 0, api.Span{}, api.ErrTime},
		{"side by side, no liar", []api.Span{{Lo: 1, Hi: 5}, {Lo: 6, Hi: 9}}, 0, api.Span{}, api.ErrTime},
		{"they touch in one time", []api.Span{{Lo: 1, Hi: 5}, {Lo: 5, Hi: 9}}, 0, api.Span{Lo: 5, Hi: 5}, api.OK},
		{"one in the other, no liar", []api.Span{{Lo: 1, Hi: 9}, {Lo: 3, Hi: 4}}, 0, api.Span{Lo: 3, Hi: 4}, api.OK},
		{"one in the other, one liar", []api.Span{{Lo: 3, Hi: 4}, {Lo: 1, Hi: 9}}, 1, api.Span{Lo: 1, Hi: 9}, api.OK},
		{"the same, no liar", same(3, api.Span{Lo: 3, Hi: 9}), 0, api.Span{Lo: 3, Hi: 9}, api.OK},
		{"the same, two liars", same(3, api.Span{Lo: 3, Hi: 9}), 2, api.Span{Lo: 3, Hi: 9}, api.OK},
		{"the same, of one time", same(4, api.Span{Lo: -7, Hi: -7}), 1, api.Span{Lo: -7, Hi: -7}, api.OK},
		{"two places", places, 2, api.Span{Lo: 3, Hi: 30}, api.OK},
		{"two places, one liar", places, 1, api.Span{}, api.ErrTime},
		{"two places, no liar", places, 0, api.Span{}, api.ErrTime},
		{"two places, three liars", places, 3, api.Span{Lo: 1, Hi: 40}, api.OK},
		{"two places, the later in one time", []api.Span{{Lo: 1, Hi: 5}, {Lo: 2, Hi: 9}, {Lo: 20, Hi: 30}, {Lo: 30, Hi: 40}}, 2, api.Span{Lo: 2, Hi: 30}, api.OK},
		{"two places in one time each", []api.Span{{Lo: 1, Hi: 5}, {Lo: 5, Hi: 9}, {Lo: 20, Hi: 30}, {Lo: 30, Hi: 40}}, 2, api.Span{Lo: 5, Hi: 30}, api.OK},
		{"three places", []api.Span{{Lo: -9, Hi: -8}, {Lo: -9, Hi: -9}, {Lo: 0, Hi: 1}, {Lo: 1, Hi: 2}, {Lo: 7, Hi: 8}, {Lo: 8, Hi: 9}}, 4, api.Span{Lo: -9, Hi: 8}, api.OK},
		{"the ends of time", []api.Span{{Lo: -far, Hi: -far}, {Lo: far, Hi: far}}, 1, api.Span{Lo: -far, Hi: far}, api.OK},
		{"the ends of time, no liar", []api.Span{{Lo: -far, Hi: -far}, {Lo: far, Hi: far}}, 0, api.Span{}, api.ErrTime},
		{"the ends of time, and all of it", []api.Span{{Lo: far, Hi: far}, {Lo: -far, Hi: far}, {Lo: -far, Hi: -far}}, 1, api.Span{Lo: -far, Hi: far}, api.OK},
		{"64 nested, no liar", nested(64), 0, api.Span{Lo: 63, Hi: 937}, api.OK},
		{"64 nested, 20 liars", nested(64), 20, api.Span{Lo: 43, Hi: 957}, api.OK},
		{"64 nested, 63 liars", nested(64), 63, api.Span{Lo: 0, Hi: 1000}, api.OK},
		{"64 apart, 63 liars", row(64, 10, 5), 63, api.Span{Lo: 0, Hi: 635}, api.OK},
		{"64 apart, 62 liars", row(64, 10, 5), 62, api.Span{}, api.ErrTime},
		{"64 that touch, 62 liars", row(64, 10, 10), 62, api.Span{Lo: 10, Hi: 630}, api.OK},
		{"64 that touch, 61 liars", row(64, 10, 10), 61, api.Span{}, api.ErrTime},
		{"64 the same, no liar", same(64, api.Span{Lo: 7, Hi: 8}), 0, api.Span{Lo: 7, Hi: 8}, api.OK},
	} {
		if got, err := sweep.Fuse(c.l, c.liars); got != c.want || err != c.err {
			t.Errorf("%s: %v and %d, want %v and %d", c.name, got, err, c.want, c.err)
		}
		back := slices.Clone(c.l)
		slices.Reverse(back)
		if got, err := sweep.Fuse(back, c.liars); got != c.want || err != c.err {
			t.Errorf("%s, from its end: %v and %d, want %v and %d", c.name, got, err, c.want, c.err)
		}
	}
}

func TestFuseOfAll(t *testing.T) { // P7.2: as if every time were asked for its votes; ErrTime with the zero interval
	for _, l := range manyLists() {
		for liars := range l {
			got, err := sweep.Fuse(l, liars)
			if want, wantErr := fusedOf(l, liars); got != want || err != wantErr {
				t.Fatalf("Fuse of %v with %d liars: %v and %d, want %v and %d", l, liars, got, err, want, wantErr)
			}
		}
	}
}

func TestFuseOfWrongLists(t *testing.T) { // P7.2, P0, R1, R2: with any liars
	for name, l := range notValid() {
		for _, liars := range []int{math.MinInt, -1, 0, 1, len(l) - 1, len(l), len(l) + 1, 63, 64, 65, math.MaxInt} {
			if got, err := sweep.Fuse(l, liars); got != (api.Span{}) || err != api.ErrArg {
				t.Errorf("%s, %d liars: %v and %d", name, liars, got, err)
			}
		}
	}
}

func TestFuseOfWrongLiars(t *testing.T) { // P7.2, P0, R1: ErrArg also where no time would have votes enough
	for _, l := range [][]api.Span{
		{{Lo: 3, Hi: 9}}, {{Lo: 1, Hi: 5}, {Lo: 4, Hi: 9}}, {{Lo: 1, Hi: 5}, {Lo: 20, Hi: 30}}, row(3, 10, 5), nested(7), row(64, 10, 5), nested(64),
	} {
		n := len(l)
		for _, liars := range []int{math.MinInt, math.MinInt + 1, math.MinInt32, -65, -64, -n - 1, -n, -2, -1, n, n + 1, 2 * n, 1000, math.MaxInt32, math.MaxInt - 1, math.MaxInt} {
			if got, err := sweep.Fuse(l, liars); got != (api.Span{}) || err != api.ErrArg {
				t.Errorf("%d intervals, %d liars: %v and %d", n, liars, got, err)
			}
		}
	}
}

// having is the intervals of l that contain t.
func having(l []api.Span, t int64) []api.Span {
	var with []api.Span
	for _, s := range l {
		if span.Has(s, t) {
			with = append(with, s)
		}
	}
	return with
}

// twoWidest is the widths of the two widest of l together.
func twoWidest(l []api.Span) int64 {
	var widths []int64
	for _, s := range l {
		widths = append(widths, span.Width(s))
	}
	slices.Sort(widths)
	var both int64
	for _, w := range widths[max(0, len(widths)-2):] {
		both += w
	}
	return both
}

func hullOf(l []api.Span) api.Span {
	hull := l[0]
	for _, s := range l {
		hull = span.Hull(hull, s)
	}
	return hull
}

// holdsFor tells what of the theorem is broken for a time that all but liars of l contain.
func holdsFor(l []api.Span, liars int, t int64) string {
	fused, err := sweep.Fuse(l, liars)
	if err != api.OK || !span.Right(fused) {
		return "no fused interval"
	}
	if !span.Has(fused, t) {
		return "the fused interval lacks the time"
	}
	if len(l) <= 2*liars {
		return ""
	}
	with := having(l, t)
	if span.Width(fused) > twoWidest(with) {
		return "the fused interval is wider than the two widest"
	}
	if both, ok := span.Meet(fused, hullOf(with)); !ok || both != fused {
		return "the fused interval lies not within the hull"
	}
	return ""
}

func TestFusedHasTheTime(t *testing.T) { // P7.3, P3: for every time that votes enough contain
	for _, l := range manyLists() {
		for liars := range l {
			for at := int64(-30); at <= 30; at++ {
				if votesOf(l, at) < len(l)-liars {
					continue
				}
				if broken := holdsFor(l, liars, at); broken != "" {
					t.Fatalf("%v with %d liars, time %d: %s", l, liars, at, broken)
				}
			}
		}
	}
}

func TestLiarsCannotHideTheTime(t *testing.T) { // P7.3, P3: whatever the liars tell, at any places of the list, with far times as well
	random := rand.New(rand.NewSource(3))
	for range 3000 {
		n := 1 + random.Intn(64)
		liars := random.Intn(n)
		reach := far >> random.Intn(58)
		at := random.Int63n(2*reach+1) - reach
		l := randomList(random, n, reach)
		for _, i := range random.Perm(n)[liars:] { // these tell the truth
			before, behind := random.Int63n(reach/2+1), random.Int63n(reach/2+1)
			l[i] = api.Span{Lo: max(-far, at-before), Hi: min(far, at+behind)}
		}
		if broken := holdsFor(l, liars, at); broken != "" {
			t.Fatalf("%v with %d liars, time %d: %s", l, liars, at, broken)
		}
	}
}

func TestMoreLiars(t *testing.T) { // P7.3: never narrower, and no error where fewer gave none
	for _, l := range manyLists() {
		fewer, before := sweep.Fuse(l, 0)
		for liars := 1; liars < len(l); liars++ {
			more, err := sweep.Fuse(l, liars)
			if before == api.OK && (err != api.OK || more.Lo > fewer.Lo || more.Hi < fewer.Hi || span.Width(more) < span.Width(fewer)) {
				t.Fatalf("Fuse of %v with %d liars: %v and %d, with one less %v", l, liars, more, err, fewer)
			}
			fewer, before = more, err
		}
		if hull := hullOf(l); fewer != hull || before != api.OK {
			t.Fatalf("Fuse of %v with all liars but one: %v and %d, want %v", l, fewer, before, hull)
		}
	}
}

func TestMostIsWhereFuseBegins(t *testing.T) { // P7.1, P7.2: with fewer liars there is no time, with so many it begins with Most's
	for _, l := range manyLists() {
		at, votes, _ := sweep.Most(l)
		if fused, err := sweep.Fuse(l, len(l)-votes); err != api.OK || fused.Lo != at {
			t.Fatalf("Most of %v: %d and %d, but Fuse answers %v and %d", l, at, votes, fused, err)
		}
		if fused, err := sweep.Fuse(l, len(l)-votes-1); votes < len(l) && err != api.ErrTime {
			t.Fatalf("Most of %v: %d and %d, but Fuse with one liar less answers %v and %d", l, at, votes, fused, err)
		}
	}
}

// answers is what all functions answer for a list, a number of liars and a time.
type answers struct {
	votes, greatest   int
	fused             api.Span
	at                int64
	fuseErr, greatErr api.Errno
}

func ask(l []api.Span, liars int, t int64) answers {
	var a answers
	a.votes = sweep.Votes(l, t)
	a.fused, a.fuseErr = sweep.Fuse(l, liars)
	a.at, a.greatest, a.greatErr = sweep.Most(l)
	return a
}

func TestOrderOfList(t *testing.T) { // P7.3
	random := rand.New(rand.NewSource(5))
	for _, l := range manyLists() {
		liars, at := random.Intn(len(l)), random.Int63n(60)-30
		want := ask(l, liars, at)
		for range 10 {
			mixed := slices.Clone(l)
			random.Shuffle(len(mixed), func(i, j int) { mixed[i], mixed[j] = mixed[j], mixed[i] })
			if got := ask(mixed, liars, at); got != want {
				t.Fatalf("%v with %d liars: %v, as %v: %v", l, liars, want, mixed, got)
			}
		}
	}
}

func TestListStays(t *testing.T) { // R3: what was passed, and what lies behind it
	lists := manyLists()
	for _, l := range notValid() {
		lists = append(lists, l)
	}
	for _, l := range lists {
		room := append(slices.Clone(l), same(200, api.Span{Lo: -1, Hi: 99})...)
		before := slices.Clone(room)
		ask(room[:len(l)], len(l)/2, 3)
		if !slices.Equal(room, before) {
			t.Fatalf("%v was changed: %v", before[:len(l)], room[:len(l)])
		}
	}
}

func TestListIsNotKept(t *testing.T) { // R3, R4: another content of the same memory has answers of its own
	l := []api.Span{{Lo: 1, Hi: 5}, {Lo: 4, Hi: 9}, {Lo: 20, Hi: 30}}
	first, _ := sweep.Fuse(l, 1)
	l[0] = api.Span{Lo: 25, Hi: 26}
	second, _ := sweep.Fuse(l, 1)
	at, votes, _ := sweep.Most(l)
	if first != (api.Span{Lo: 4, Hi: 5}) || second != (api.Span{Lo: 25, Hi: 26}) || at != 25 || votes != 2 || sweep.Votes(l, 4) != 1 {
		t.Error(first, second, at, votes)
	}
}

func TestCallsAreApart(t *testing.T) { // R4: whatever was called before
	lists := manyLists()
	for _, l := range notValid() {
		lists = append(lists, l)
	}
	first := make([]answers, len(lists))
	for i, l := range lists {
		first[i] = ask(l, len(l)/3, int64(i%20))
	}
	random := rand.New(rand.NewSource(4))
	for _, i := range random.Perm(len(lists)) {
		ask(lists[random.Intn(len(lists))], random.Intn(70)-3, 2)
		if got := ask(lists[i], len(lists[i])/3, int64(i%20)); got != first[i] {
			t.Errorf("%v: %v, at first %v", lists[i], got, first[i])
		}
	}
}

func TestSeveralGoroutines(t *testing.T) { // R5: on the same lists, too
	lists := manyLists()
	want := make([]answers, len(lists))
	for i, l := range lists {
		want[i] = ask(l, len(l)/3, int64(i%20))
	}
	var group sync.WaitGroup
	for range 8 {
		group.Go(func() {
			for i, l := range lists {
				if got := ask(l, len(l)/3, int64(i%20)); got != want[i] {
					t.Errorf("%v: %v, want %v", l, got, want[i])
				}
			}
		})
	}
	group.Wait()
}

func TestImports(t *testing.T) { // R6, and the map: sweep imports api and span, and calls what span's chapter lists
	listed := map[string]bool{"Right": true, "Has": true, "Meet": true, "Hull": true, "Width": true, "Slack": true, "Grow": true}
	files, err := filepath.Glob("*.go")
	if err != nil || len(files) == 0 {
		t.Fatal("no files", err)
	}
	for _, name := range files {
		if strings.HasSuffix(name, "_test.go") {
			continue
		}
		file, err := parser.ParseFile(token.NewFileSet(), name, nil, 0)
		if err != nil {
			t.Fatal(err)
		}
		for _, i := range file.Imports {
			if p := i.Path.Value; strings.Contains(p, "bartizan") && p != `"bartizan/api"` && p != `"bartizan/span"` {
				t.Errorf("%s imports %s", name, p)
			}
		}
		ast.Inspect(file, func(n ast.Node) bool {
			if x, ok := n.(*ast.SelectorExpr); ok {
				if from, ok := x.X.(*ast.Ident); ok && from.Name == "span" && !listed[x.Sel.Name] {
					t.Errorf("%s calls span.%s", name, x.Sel.Name)
				}
			}
			return true
		})
	}
}
