package span_test

import (
	"go/parser"
	"go/token"
	"math"
	"math/big"
	"math/rand"
	"path/filepath"
	"strings"
	"sync"
	"testing"

	"bartizan/api"
	"bartizan/span"
)

const (
	far   = int64(api.Far)
	least = int64(math.MinInt64)
	most  = int64(math.MaxInt64)
)

// times is around the edges of the range of times and of int64, and ordinary ones.
func times() []int64 {
	return []int64{
		least, least + 1, -far - 2, -far - 1, -far, -far + 1, -far + 2, -1000001, -7, -1, 0,
		1, 2, 7, 1000000, far - 2, far - 1, far, far + 1, far + 2, most - 1, most,
	}
}

// validSpans is intervals that are valid, of all the times in range.
func validSpans() []api.Span {
	var all []api.Span
	for _, lo := range times() {
		for _, hi := range times() {
			if -far <= lo && lo <= hi && hi <= far {
				all = append(all, api.Span{Lo: lo, Hi: hi})
			}
		}
	}
	return all
}

// anySpans is intervals of all times, valid or not.
func anySpans() []api.Span {
	var all []api.Span
	for _, lo := range times() {
		for _, hi := range times() {
			all = append(all, api.Span{Lo: lo, Hi: hi})
		}
	}
	return all
}

func allTicks() []int64 {
	return []int64{
		0, 1, 2, 3, 9, 10, 11, 499999, 500000, 500001, 999999, 1000000, 1000001, 2000000, 123456789, 1 << 40, 1<<40 + 1,
		far / 2, far/2 + 1, far - 1000000, far - 2, far - 1, far,
	}
}

func allPpm() []int {
	return []int{0, 1, 2, 3, 10, 999, 1000, 33333, 65536, 99999, 100000}
}

func wrongTicks() []int64 {
	return []int64{least, least + 1, -far - 1, -far, -1000000, -2, -1, far + 1, far + 2, 2 * far, most - 1, most}
}

func wrongPpm() []int {
	return []int{math.MinInt, math.MinInt + 1, -1000000, -100000, -2, -1, 100001, 100002, 1000000, math.MaxInt32, math.MaxInt - 1, math.MaxInt}
}

// slackOf is ticks * ppm / 1000000, rounded up, with numbers of any size.
func slackOf(ticks int64, ppm int) int64 {
	product := new(big.Int).Mul(big.NewInt(ticks), big.NewInt(int64(ppm)))
	product.Add(product, big.NewInt(999999))
	return product.Div(product, big.NewInt(1000000)).Int64()
}

// limited is t, or Far if it is beyond, or -Far.
func limited(t *big.Int) int64 {
	if t.Cmp(big.NewInt(far)) > 0 {
		return far
	}
	if t.Cmp(big.NewInt(-far)) < 0 {
		return -far
	}
	return t.Int64()
}

// sum of times, with numbers of any size.
func sum(all ...int64) *big.Int {
	total := new(big.Int)
	for _, t := range all {
		total.Add(total, big.NewInt(t))
	}
	return total
}

// grown is the grown interval by the document's words, with numbers of any size.
func grown(s api.Span, ticks int64, ppm int) api.Span {
	slack := slackOf(ticks, ppm)
	return api.Span{Lo: limited(sum(s.Lo, ticks, -slack)), Hi: limited(sum(s.Hi, ticks, slack))}
}

func TestRight(t *testing.T) { // P6.1
	for _, c := range []struct {
		lo, hi int64
		want   bool
	}{
		{0, 0, true}, {1, 5, true}, {5, 1, false}, {1, 0, false}, {0, -1, false}, {-1, 0, true}, {-5, -1, true}, {-1, -5, false},
		{-far, far, true}, {-far, -far, true}, {far, far, true}, {far, -far, false}, {far, far - 1, false}, {-far + 1, -far, false},
		{-far - 1, far, false}, {-far, far + 1, false}, {-far - 1, far + 1, false}, {-far - 1, -far - 1, false}, {far + 1, far + 1, false},
		{-far - 1, -far, false}, {far, far + 1, false}, {far + 1, -far - 1, false}, {0, far + 1, false}, {-far - 1, 0, false},
		{least, most, false}, {most, least, false}, {least, least, false}, {most, most, false}, {least, 0, false}, {0, most, false},
		{far - 1, far, true}, {-far, -far + 1, true}, {7, 7, true},
	} {
		if got := span.Right(api.Span{Lo: c.lo, Hi: c.hi}); got != c.want {
			t.Errorf("Right of %d to %d: %t", c.lo, c.hi, got)
		}
	}
	if !span.Right(api.Span{}) {
		t.Error("the zero interval is not valid")
	}
}

func TestRightOfAll(t *testing.T) { // P6.1: both times in range, and in order
	for _, s := range anySpans() {
		want := s.Lo >= -far && s.Lo <= far && s.Hi >= -far && s.Hi <= far && s.Lo <= s.Hi
		if got := span.Right(s); got != want {
			t.Errorf("Right of %v: %t", s, got)
		}
	}
}

func TestHas(t *testing.T) { // P6.1: also for intervals that are not valid
	for _, c := range []struct {
		lo, hi, t int64
		want      bool
	}{
		{1, 5, 0, false}, {1, 5, 1, true}, {1, 5, 3, true}, {1, 5, 5, true}, {1, 5, 6, false},
		{5, 1, 1, false}, {5, 1, 3, false}, {5, 1, 5, false}, {5, 1, 0, false}, {5, 1, 6, false}, {1, 0, 0, false}, {1, 0, 1, false},
		{7, 7, 7, true}, {7, 7, 6, false}, {7, 7, 8, false}, {-5, -1, -5, true}, {-5, -1, -6, false}, {-5, -1, 0, false},
		{-far, far, -far, true}, {-far, far, far, true}, {-far, far, -far - 1, false}, {-far, far, far + 1, false},
		{far, far + 10, far + 5, true}, {far, far + 10, far + 11, false}, {-far - 10, 0, -far - 10, true}, {-far - 10, 0, -far - 11, false},
		{least, most, least, true}, {least, most, most, true}, {least, most, 0, true}, {most, least, 0, false}, {most, least, most, false},
		{most, most, most, true}, {most, most, most - 1, false}, {least, least, least, true}, {least, least, least + 1, false}, {least, least, most, false},
	} {
		if got := span.Has(api.Span{Lo: c.lo, Hi: c.hi}, c.t); got != c.want {
			t.Errorf("Has of %d to %d and %d: %t", c.lo, c.hi, c.t, got)
		}
	}
}

func TestMeet(t *testing.T) { // P6.1, R1: the zero interval and false where they lie apart
	for _, c := range []struct {
		name          string
		a, b, want    api.Span
		haveSomething bool
	}{
		{"they overlap", api.Span{Lo: 1, Hi: 5}, api.Span{Lo: 4, Hi: 9}, api.Span{Lo: 4, Hi: 5}, true},
		{"they touch in one time", api.Span{Lo: 1, Hi: 5}, api.Span{Lo: 5, Hi: 9}, api.Span{Lo: 5, Hi: 5}, true},
		{"they lie side by side", api.Span{Lo: 1, Hi: 5}, api.Span{Lo: 6, Hi: 9}, api.Span{}, false},
		{"they lie apart", api.Span{Lo: 1, Hi: 5}, api.Span{Lo: 20, Hi: 30}, api.Span{}, false},
		{"they lie far apart", api.Span{Lo: -far, Hi: -far}, api.Span{Lo: far, Hi: far}, api.Span{}, false},
		{"one lies inside the other", api.Span{Lo: 1, Hi: 9}, api.Span{Lo: 3, Hi: 4}, api.Span{Lo: 3, Hi: 4}, true},
		{"one lies inside at its begin", api.Span{Lo: 1, Hi: 9}, api.Span{Lo: 1, Hi: 4}, api.Span{Lo: 1, Hi: 4}, true},
		{"one lies inside at its end", api.Span{Lo: 1, Hi: 9}, api.Span{Lo: 3, Hi: 9}, api.Span{Lo: 3, Hi: 9}, true},
		{"one is one time of the other", api.Span{Lo: 1, Hi: 9}, api.Span{Lo: 3, Hi: 3}, api.Span{Lo: 3, Hi: 3}, true},
		{"the same", api.Span{Lo: 3, Hi: 9}, api.Span{Lo: 3, Hi: 9}, api.Span{Lo: 3, Hi: 9}, true},
		{"the same, of one time", api.Span{Lo: -3, Hi: -3}, api.Span{Lo: -3, Hi: -3}, api.Span{Lo: -3, Hi: -3}, true},
		{"they meet in the zero interval", api.Span{Lo: -1, Hi: 0}, api.Span{Lo: 0, Hi: 1}, api.Span{}, true},
		{"all times", api.Span{Lo: -far, Hi: far}, api.Span{Lo: -far, Hi: far}, api.Span{Lo: -far, Hi: far}, true},
		{"the same one that is not valid", api.Span{Lo: 5, Hi: 1}, api.Span{Lo: 5, Hi: 1}, api.Span{}, false},
		{"one in the wrong order", api.Span{Lo: 5, Hi: 1}, api.Span{Lo: 0, Hi: 9}, api.Span{}, false},
		{"beyond Far", api.Span{Lo: far, Hi: far + 9}, api.Span{Lo: far + 3, Hi: far + 20}, api.Span{Lo: far + 3, Hi: far + 9}, true},
		{"all of int64", api.Span{Lo: least, Hi: most}, api.Span{Lo: 3, Hi: 4}, api.Span{Lo: 3, Hi: 4}, true},
		{"all of int64 twice", api.Span{Lo: least, Hi: most}, api.Span{Lo: least, Hi: most}, api.Span{Lo: least, Hi: most}, true},
		{"the ends of int64", api.Span{Lo: least, Hi: least}, api.Span{Lo: most, Hi: most}, api.Span{}, false},
		{"all of int64, turned", api.Span{Lo: most, Hi: least}, api.Span{Lo: least, Hi: most}, api.Span{}, false},
		{"the last of int64", api.Span{Lo: 0, Hi: most}, api.Span{Lo: most, Hi: most}, api.Span{Lo: most, Hi: most}, true},
		{"the first of int64", api.Span{Lo: least, Hi: 0}, api.Span{Lo: least, Hi: least}, api.Span{Lo: least, Hi: least}, true},
	} {
		for _, pair := range [][2]api.Span{{c.a, c.b}, {c.b, c.a}} {
			if got, ok := span.Meet(pair[0], pair[1]); got != c.want || ok != c.haveSomething {
				t.Errorf("%s: %v and %t, want %v", c.name, got, ok, c.want)
			}
		}
	}
}

func TestMeetHasWhatBothHave(t *testing.T) { // P6.1, P6.3: a time lies in Meet just if it lies in both, for any intervals
	for _, a := range anySpans() {
		for _, b := range anySpans() {
			both, ok := span.Meet(a, b)
			if !ok && both != (api.Span{}) {
				t.Fatalf("Meet of %v and %v: %v and false", a, b, both)
			}
			if ok && (both.Lo != max(a.Lo, b.Lo) || both.Hi != min(a.Hi, b.Hi)) {
				t.Fatalf("Meet of %v and %v: %v", a, b, both)
			}
			for _, at := range times() {
				if got, want := ok && span.Has(both, at), span.Has(a, at) && span.Has(b, at); got != want {
					t.Fatalf("Meet of %v and %v: %v and %t; for %d: %t", a, b, both, ok, at, got)
				}
			}
		}
	}
}

func TestMeetOfSmall(t *testing.T) { // P6.3: every time of all small intervals
	for lo := int64(-4); lo <= 4; lo++ {
		for hi := int64(-4); hi <= 4; hi++ {
			for otherLo := int64(-4); otherLo <= 4; otherLo++ {
				for otherHi := int64(-4); otherHi <= 4; otherHi++ {
					a, b := api.Span{Lo: lo, Hi: hi}, api.Span{Lo: otherLo, Hi: otherHi}
					both, ok := span.Meet(a, b)
					for at := int64(-5); at <= 5; at++ {
						if got, want := ok && span.Has(both, at), span.Has(a, at) && span.Has(b, at); got != want {
							t.Fatalf("Meet of %v and %v: %v and %t; for %d: %t", a, b, both, ok, at, got)
						}
					}
				}
			}
		}
	}
}

func TestHull(t *testing.T) { // P6.2
	for _, c := range []struct{ a, b, want api.Span }{
		{api.Span{Lo: 1, Hi: 5}, api.Span{Lo: 4, Hi: 9}, api.Span{Lo: 1, Hi: 9}},
		{api.Span{Lo: 1, Hi: 5}, api.Span{Lo: 20, Hi: 30}, api.Span{Lo: 1, Hi: 30}},
		{api.Span{Lo: 1, Hi: 9}, api.Span{Lo: 3, Hi: 4}, api.Span{Lo: 1, Hi: 9}},
		{api.Span{Lo: 1, Hi: 9}, api.Span{Lo: 1, Hi: 4}, api.Span{Lo: 1, Hi: 9}},
		{api.Span{Lo: 1, Hi: 9}, api.Span{Lo: 3, Hi: 9}, api.Span{Lo: 1, Hi: 9}},
		{api.Span{Lo: 3, Hi: 9}, api.Span{Lo: 3, Hi: 9}, api.Span{Lo: 3, Hi: 9}},
		{api.Span{Lo: -3, Hi: -3}, api.Span{Lo: 7, Hi: 7}, api.Span{Lo: -3, Hi: 7}},
		{api.Span{}, api.Span{Lo: 7, Hi: 8}, api.Span{Lo: 0, Hi: 8}},
		{api.Span{}, api.Span{Lo: -8, Hi: -7}, api.Span{Lo: -8, Hi: 0}},
		{api.Span{Lo: -far, Hi: -far}, api.Span{Lo: far, Hi: far}, api.Span{Lo: -far, Hi: far}},
		{api.Span{Lo: -far, Hi: far}, api.Span{Lo: 2, Hi: 2}, api.Span{Lo: -far, Hi: far}},
	} {
		for _, pair := range [][2]api.Span{{c.a, c.b}, {c.b, c.a}} {
			if got := span.Hull(pair[0], pair[1]); got != c.want {
				t.Errorf("Hull of %v and %v: %v, want %v", pair[0], pair[1], got, c.want)
			}
		}
	}
	for _, a := range validSpans() {
		for _, b := range validSpans() {
			if got := span.Hull(a, b); got.Lo != min(a.Lo, b.Lo) || got.Hi != max(a.Hi, b.Hi) {
				t.Fatalf("Hull of %v and %v: %v", a, b, got)
			}
		}
	}
}

func TestWidth(t *testing.T) { // P6.2
	for _, c := range []struct{ lo, hi, want int64 }{
		{0, 0, 0}, {7, 7, 0}, {-7, -7, 0}, {far, far, 0}, {-far, -far, 0}, {1, 5, 4}, {-5, -1, 4}, {-2, 3, 5}, {0, 1, 1},
		{0, far, far}, {-far, 0, far}, {-far, far, 2 * far}, {-far + 1, far, 2*far - 1}, {-far, far - 1, 2*far - 1},
	} {
		if got := span.Width(api.Span{Lo: c.lo, Hi: c.hi}); got != c.want {
			t.Errorf("Width of %d to %d: %d, want %d", c.lo, c.hi, got, c.want)
		}
	}
	for _, s := range validSpans() {
		if got := span.Width(s); got != sum(s.Hi, -s.Lo).Int64() {
			t.Errorf("Width of %v: %d", s, got)
		}
	}
}

func TestSlack(t *testing.T) { // P6.2: the chapter's example first
	for _, c := range []struct {
		ticks int64
		ppm   int
		want  int64
	}{
		{1000001, 2, 3}, {1000000, 2, 2}, {999999, 2, 2}, {500000, 2, 1}, {500001, 2, 2}, {499999, 2, 1},
		{0, 0, 0}, {0, 1, 0}, {0, 100000, 0}, {1, 0, 0}, {far, 0, 0}, {1000000, 0, 0},
		{1, 1, 1}, {1000000, 1, 1}, {1000001, 1, 2}, {2000000, 1, 2}, {1, 100000, 1}, {10, 100000, 1}, {11, 100000, 2}, {9, 100000, 1},
		{1000000, 100000, 100000}, {1000001, 100000, 100001}, {3, 33333, 1}, {31, 33333, 2}, {30, 33333, 1},
		{far, 100000, 115292150460684698}, {far, 1, 1152921504607}, {far - 1, 100000, 115292150460684698}, {far - 7, 100000, 115292150460684697},
	} {
		if got := span.Slack(c.ticks, c.ppm); got != c.want {
			t.Errorf("Slack of %d ticks with %d ppm: %d, want %d", c.ticks, c.ppm, got, c.want)
		}
	}
}

func TestSlackOfAll(t *testing.T) { // P6.2: as with numbers of any size
	random := rand.New(rand.NewSource(6))
	for range 2000 {
		ticks, ppm := random.Int63n(far+1)>>random.Intn(60), random.Intn(api.MostPpm+1)
		if got, want := span.Slack(ticks, ppm), slackOf(ticks, ppm); got != want {
			t.Fatalf("Slack of %d ticks with %d ppm: %d, want %d", ticks, ppm, got, want)
		}
	}
	for _, ticks := range allTicks() {
		for _, ppm := range allPpm() {
			if got, want := span.Slack(ticks, ppm), slackOf(ticks, ppm); got != want {
				t.Errorf("Slack of %d ticks with %d ppm: %d, want %d", ticks, ppm, got, want)
			}
		}
	}
}

// outOfRange calls f with ticks or ppm, or both, that are out of range on either side.
func outOfRange(f func(ticks int64, ppm int)) {
	for _, ticks := range wrongTicks() {
		for _, ppm := range append(allPpm(), wrongPpm()...) {
			f(ticks, ppm)
		}
	}
	for _, ticks := range allTicks() {
		for _, ppm := range wrongPpm() {
			f(ticks, ppm)
		}
	}
}

func TestSlackOutOfRange(t *testing.T) { // P6.2, P0
	outOfRange(func(ticks int64, ppm int) {
		if got := span.Slack(ticks, ppm); got != 0 {
			t.Errorf("Slack of %d ticks with %d ppm: %d", ticks, ppm, got)
		}
	})
}

func TestGrow(t *testing.T) { // P6.2
	for _, c := range []struct {
		name  string
		s     api.Span
		ticks int64
		ppm   int
		want  api.Span
	}{
		{"no ticks", api.Span{Lo: 10, Hi: 20}, 0, 100000, api.Span{Lo: 10, Hi: 20}},
		{"no ppm", api.Span{Lo: 10, Hi: 20}, 4, 0, api.Span{Lo: 14, Hi: 24}},
		{"with slack", api.Span{Lo: 10, Hi: 20}, 1000001, 2, api.Span{Lo: 1000008, Hi: 1000024}},
		{"all of the tick is slack", api.Span{Lo: 10, Hi: 20}, 1, 1, api.Span{Lo: 10, Hi: 22}},
		{"one time", api.Span{Lo: -5, Hi: -5}, 20, 100000, api.Span{Lo: 13, Hi: 17}},
		{"from -Far", api.Span{Lo: -far, Hi: 0}, 10, 100000, api.Span{Lo: -far + 9, Hi: 11}},
		{"from -Far, by one", api.Span{Lo: -far, Hi: -far}, 1, 1, api.Span{Lo: -far, Hi: -far + 2}},
		{"from -Far, by none", api.Span{Lo: -far, Hi: far}, 0, 100000, api.Span{Lo: -far, Hi: far}},
		{"from -Far, by most", api.Span{Lo: -far, Hi: -far}, far, 100000, api.Span{Lo: -115292150460684698, Hi: 115292150460684698}},
		{"right up to Far", api.Span{Lo: 10, Hi: far - 11}, 10, 100000, api.Span{Lo: 19, Hi: far}},
		{"one beyond Far", api.Span{Lo: 10, Hi: far - 10}, 10, 100000, api.Span{Lo: 19, Hi: far}},
		{"the slack is beyond Far", api.Span{Lo: 10, Hi: far - 4}, 4, 1, api.Span{Lo: 13, Hi: far}},
		{"the later one is limited", api.Span{Lo: 10, Hi: far}, 1000, 1000, api.Span{Lo: 1009, Hi: far}},
		{"both come to Far", api.Span{Lo: far - 4, Hi: far - 4}, 4, 0, api.Span{Lo: far, Hi: far}},
		{"both are limited", api.Span{Lo: far - 3, Hi: far}, 1000, 1000, api.Span{Lo: far, Hi: far}},
		{"both are limited, by most", api.Span{Lo: far, Hi: far}, far, 100000, api.Span{Lo: far, Hi: far}},
		{"all times, by most", api.Span{Lo: -far, Hi: far}, far, 100000, api.Span{Lo: -115292150460684698, Hi: far}},
	} {
		if got := span.Grow(c.s, c.ticks, c.ppm); got != c.want {
			t.Errorf("%s: %v, want %v", c.name, got, c.want)
		}
	}
}

func TestGrowOfAll(t *testing.T) { // P6.2: as with numbers of any size; what has grown is valid
	for _, s := range validSpans() {
		for _, ticks := range allTicks() {
			for _, ppm := range allPpm() {
				got := span.Grow(s, ticks, ppm)
				if want := grown(s, ticks, ppm); got != want || !span.Right(got) {
					t.Fatalf("Grow of %v by %d with %d ppm: %v, want %v", s, ticks, ppm, got, want)
				}
			}
		}
	}
}

func TestGrowOutOfRange(t *testing.T) { // P6.2, P0: the interval itself
	for _, s := range []api.Span{{}, {Lo: 10, Hi: 20}, {Lo: -far, Hi: far}, {Lo: far, Hi: far}, {Lo: -far, Hi: -far}, {Lo: -7, Hi: -7}} {
		outOfRange(func(ticks int64, ppm int) {
			if got := span.Grow(s, ticks, ppm); got != s {
				t.Errorf("Grow of %v by %d with %d ppm: %v", s, ticks, ppm, got)
			}
		})
	}
}

func TestAllCallsEnd(t *testing.T) { // P0: also for intervals that are not valid
	for _, s := range anySpans() {
		for _, ticks := range append(allTicks(), wrongTicks()...) {
			for _, ppm := range append(allPpm(), wrongPpm()...) {
				span.Grow(s, ticks, ppm)
			}
		}
		for _, other := range anySpans() {
			span.Hull(s, other)
		}
		span.Width(s)
	}
}

func TestGrowHasAllAdvances(t *testing.T) { // P6.3: after ticks less the slack, after ticks and the slack, and after all between
	for _, s := range []api.Span{{Lo: -3, Hi: 4}, {Lo: 7, Hi: 7}, {Lo: -far, Hi: -far + 5}, {Lo: far - 30, Hi: far - 25}, {Lo: far - 2, Hi: far}} {
		for ticks := int64(0); ticks <= 45; ticks++ {
			for _, ppm := range allPpm() {
				later, slack := span.Grow(s, ticks, ppm), span.Slack(ticks, ppm)
				for at := s.Lo; at <= s.Hi; at++ {
					for advance := ticks - slack; advance <= ticks+slack; advance++ {
						if then := at + advance; then <= far && !span.Has(later, then) {
							t.Fatalf("%d in %v is %d after %d ticks with %d ppm, not in %v", at, s, then, ticks, ppm, later)
						}
					}
				}
			}
		}
	}
}

func TestGrowHasFarAdvances(t *testing.T) { // P6.3: the least and the greatest advance of both ends of any valid interval
	for _, s := range validSpans() {
		for _, ticks := range allTicks() {
			for _, ppm := range allPpm() {
				later, slack := span.Grow(s, ticks, ppm), span.Slack(ticks, ppm)
				for _, at := range []int64{s.Lo, s.Hi, s.Lo + (s.Hi-s.Lo)/2} {
					for _, advance := range []int64{ticks - slack, ticks, ticks + slack} {
						if then := at + advance; then <= far && !span.Has(later, then) {
							t.Fatalf("%d in %v is %d after %d ticks with %d ppm, not in %v", at, s, then, ticks, ppm, later)
						}
					}
				}
			}
		}
	}
}

func TestGrowIsNoWiderThanItMust(t *testing.T) { // P6.2: one tick less of slack on either side would be too narrow, where nothing is limited
	for _, ticks := range allTicks()[:16] {
		for _, ppm := range allPpm() {
			s := api.Span{Lo: -9, Hi: 9}
			later, slack := span.Grow(s, ticks, ppm), slackOf(ticks, ppm)
			if span.Has(later, s.Lo+ticks-slack-1) || span.Has(later, s.Hi+ticks+slack+1) {
				t.Errorf("Grow of %v by %d with %d ppm: %v", s, ticks, ppm, later)
			}
		}
	}
}

func TestGrowInTwoSteps(t *testing.T) { // P6.3: the one step's interval lies in that of two
	for _, s := range validSpans() {
		for _, first := range allTicks() {
			for _, second := range allTicks() {
				if first+second > far {
					continue // no ticks of one step
				}
				for _, ppm := range allPpm() {
					once, twice := span.Grow(s, first+second, ppm), span.Grow(span.Grow(s, first, ppm), second, ppm)
					if twice.Lo > once.Lo || twice.Hi < once.Hi || span.Width(twice) < span.Width(once) {
						t.Fatalf("Grow of %v by %d and %d with %d ppm: %v, in one step %v", s, first, second, ppm, twice, once)
					}
				}
			}
		}
	}
}

// answers is what all functions answer for a pair of intervals, ticks and ppm.
type answers struct {
	right, has, meets        bool
	meet, hull, grown        api.Span
	width, slack, grownWidth int64
}

func ask(a, b api.Span, ticks int64, ppm int) answers {
	meet, meets := span.Meet(a, b)
	grown := span.Grow(a, ticks, ppm)
	return answers{
		right: span.Right(a), has: span.Has(a, b.Lo), meets: meets, meet: meet, hull: span.Hull(a, b), grown: grown,
		width: span.Width(a), slack: span.Slack(ticks, ppm), grownWidth: span.Width(grown),
	}
}

func TestCallsAreApart(t *testing.T) { // R3, R4: whatever was called before
	spans, ticks, ppm := validSpans(), append(allTicks(), wrongTicks()...), append(allPpm(), wrongPpm()...)
	type question struct {
		a, b  api.Span
		ticks int64
		ppm   int
	}
	var questions []question
	var first []answers
	for i := range 200 {
		q := question{spans[i%len(spans)], spans[7*i%len(spans)], ticks[5*i%len(ticks)], ppm[3*i%len(ppm)]}
		questions = append(questions, q)
		first = append(first, ask(q.a, q.b, q.ticks, q.ppm))
	}
	for _, i := range rand.New(rand.NewSource(4)).Perm(200) {
		for _, other := range questions[:i%5] {
			ask(other.b, other.a, other.ticks, other.ppm)
		}
		q := questions[i]
		if got := ask(q.a, q.b, q.ticks, q.ppm); got != first[i] {
			t.Errorf("%v: %v, at first %v", q, got, first[i])
		}
	}
}

func TestSeveralGoroutines(t *testing.T) { // R5
	spans := validSpans()
	want := make([]answers, len(spans))
	for i, s := range spans {
		want[i] = ask(s, spans[3*i%len(spans)], int64(i)*1000003, 777*(i%128))
	}
	var group sync.WaitGroup
	for range 8 {
		group.Go(func() {
			for i, s := range spans {
				if got := ask(s, spans[3*i%len(spans)], int64(i)*1000003, 777*(i%128)); got != want[i] {
					t.Errorf("%v: %v, want %v", s, got, want[i])
				}
			}
		})
	}
	group.Wait()
}

func TestImports(t *testing.T) { // R6, and the map: span imports api
	files, err := filepath.Glob("*.go")
	if err != nil || len(files) == 0 {
		t.Fatal("no files", err)
	}
	for _, name := range files {
		if strings.HasSuffix(name, "_test.go") {
			continue
		}
		file, err := parser.ParseFile(token.NewFileSet(), name, nil, parser.ImportsOnly)
		if err != nil {
			t.Fatal(err)
		}
		for _, i := range file.Imports {
			if i.Path.Value != `"bartizan/api"` {
				t.Errorf("%s imports %s", name, i.Path.Value)
			}
		}
	}
}
