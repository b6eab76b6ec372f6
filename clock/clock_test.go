package clock_test

import (
	"go/ast"
	"go/parser"
	"go/token"
	"math"
	"math/big"
	"math/rand"
	"path/filepath"
	"slices"
	"strings"
	"sync"
	"testing"

	"bartizan/api"
	"bartizan/clock"
	"bartizan/span"
	"bartizan/sweep"
)

const (
	far   = int64(api.Far)
	least = int64(math.MinInt64)
	most  = int64(math.MaxInt64)
)

// wrongSpans is intervals that are not valid.
func wrongSpans() []api.Span {
	return []api.Span{
		{Lo: 20, Hi: 10}, {Lo: 1}, {Lo: far, Hi: -far}, {Lo: -far - 1, Hi: 5}, {Lo: 1, Hi: far + 1}, {Lo: -far - 1, Hi: far + 1},
		{Lo: -far - 1, Hi: -far - 1}, {Lo: far + 1, Hi: far + 1}, {Lo: least, Hi: most}, {Lo: most, Hi: least},
		{Lo: least, Hi: least}, {Lo: most, Hi: most}, {Lo: least, Hi: 5}, {Lo: 1, Hi: most}, {Lo: most, Hi: 5}, {Lo: 1, Hi: least},
	}
}

// wrongReadings is numbers that are no readings.
func wrongReadings() []int64 {
	return []int64{-1, -2, -1000, -far, -far - 1, least, least + 1, far + 1, far + 2, 2 * far, most - 1, most}
}

// wrongRates is numbers of ppm out of range.
func wrongRates() []int {
	return []int{-1, -2, -api.MostPpm, math.MinInt32, math.MinInt, math.MinInt + 1, api.MostPpm + 1, api.MostPpm + 2, 1000000, math.MaxInt32, math.MaxInt - 1, math.MaxInt}
}

// wrongClocks is clocks that are not valid, or off.
func wrongClocks() []clock.Clock {
	at, s := int64(7), api.Span{Lo: 10, Hi: 20}
	all := []clock.Clock{{}, {Ppm: 50}, {Ppm: api.MostPpm}, {Ppm: 50, At: at, S: s}, {At: at, S: s}, {S: s}, {Ppm: -1, At: -1, S: api.Span{Lo: 2, Hi: 1}}}
	for _, ppm := range wrongRates() {
		all = append(all, clock.Clock{Ppm: ppm, On: true, At: at, S: s}, clock.Clock{Ppm: ppm, At: at, S: s}, clock.Clock{Ppm: ppm, On: true}, clock.Clock{Ppm: ppm})
	}
	for _, wrong := range wrongReadings() {
		all = append(all, clock.Clock{Ppm: 50, On: true, At: wrong, S: s}, clock.Clock{Ppm: 50, At: wrong, S: s}, clock.Clock{On: true, At: wrong})
	}
	for _, wrong := range wrongSpans() {
		all = append(all, clock.Clock{Ppm: 50, On: true, At: at, S: wrong}, clock.Clock{Ppm: 50, At: at, S: wrong}, clock.Clock{On: true, S: wrong})
	}
	return append(all, clock.Clock{Ppm: math.MinInt, On: true, At: least, S: api.Span{Lo: most, Hi: least}})
}

// validClocks is clocks that are on.
func validClocks() []clock.Clock {
	var all []clock.Clock
	for _, ppm := range []int{0, 1, 50, 99999, api.MostPpm} {
		for _, at := range []int64{0, 1, 7, far - 1, far} {
			for _, s := range []api.Span{{}, {Lo: 10, Hi: 20}, {Lo: -far, Hi: far}, {Lo: far, Hi: far}, {Lo: -far, Hi: -far}} {
				all = append(all, clock.Clock{Ppm: ppm, On: true, At: at, S: s})
			}
		}
	}
	return all
}

// drawnBack is n, but at most far and at least -far.
func drawnBack(n *big.Int) int64 {
	if n.Cmp(big.NewInt(far)) > 0 {
		return far
	}
	if n.Cmp(big.NewInt(-far)) < 0 {
		return -far
	}
	return n.Int64()
}

// grownOf is s after ticks by the document's words, in numbers without an end.
func grownOf(s api.Span, ticks int64, ppm int) api.Span {
	million := big.NewInt(1000000)
	slack := new(big.Int).Mul(big.NewInt(ticks), big.NewInt(int64(ppm)))
	slack.Add(slack, big.NewInt(999999)).Div(slack, million)
	lo := new(big.Int).Add(big.NewInt(s.Lo), big.NewInt(ticks))
	hi := new(big.Int).Add(big.NewInt(s.Hi), big.NewInt(ticks))
	return api.Span{Lo: drawnBack(lo.Sub(lo, slack)), Hi: drawnBack(hi.Add(hi, slack))}
}

func TestSample(t *testing.T) { // P8.1: the chapter's example first
	for _, c := range []struct {
		name       string
		told       api.Span
		asked, got int64
		ppm        int
		want       api.Span
	}{
		{"the example", api.Span{Lo: 10, Hi: 20}, 5, 9, 0, api.Span{Lo: 10, Hi: 24}},
		{"at the same reading", api.Span{Lo: 10, Hi: 20}, 5, 5, 0, api.Span{Lo: 10, Hi: 20}},
		{"at the same reading, MostPpm", api.Span{Lo: 10, Hi: 20}, 5, 5, api.MostPpm, api.Span{Lo: 10, Hi: 20}},
		{"at the first reading", api.Span{Lo: 10, Hi: 20}, 0, 0, api.MostPpm, api.Span{Lo: 10, Hi: 20}},
		{"at the last reading", api.Span{Lo: 10, Hi: 20}, far, far, api.MostPpm, api.Span{Lo: 10, Hi: 20}},
		{"one tick", api.Span{Lo: 10, Hi: 20}, 5, 6, 0, api.Span{Lo: 10, Hi: 21}},
		{"one tick, 1 ppm", api.Span{Lo: 10, Hi: 20}, 5, 6, 1, api.Span{Lo: 10, Hi: 22}},
		{"one tick, MostPpm", api.Span{Lo: 10, Hi: 20}, 5, 6, api.MostPpm, api.Span{Lo: 10, Hi: 22}},
		{"ten ticks, MostPpm", api.Span{Lo: 10, Hi: 20}, 5, 15, api.MostPpm, api.Span{Lo: 10, Hi: 31}},
		{"eleven ticks, MostPpm", api.Span{Lo: 10, Hi: 20}, 5, 16, api.MostPpm, api.Span{Lo: 10, Hi: 33}},
		{"a million ticks, 2 ppm", api.Span{Lo: 10, Hi: 20}, 0, 1000000, 2, api.Span{Lo: 10, Hi: 1000022}},
		{"a million and one, 2 ppm", api.Span{Lo: 10, Hi: 20}, 0, 1000001, 2, api.Span{Lo: 10, Hi: 1000024}},
		{"before 0", api.Span{Lo: -20, Hi: -10}, 5, 9, 0, api.Span{Lo: -20, Hi: -6}},
		{"one time", api.Span{Lo: 10, Hi: 10}, 5, 9, 0, api.Span{Lo: 10, Hi: 14}},
		{"the zero interval", api.Span{}, 0, 3, 0, api.Span{Hi: 3}},
		{"from the first reading to the last", api.Span{Lo: 10, Hi: 20}, 0, far, 0, api.Span{Lo: 10, Hi: far}},
		{"from the first to the last, MostPpm", api.Span{Lo: -far, Hi: -far}, 0, far, api.MostPpm, api.Span{Lo: -far, Hi: far/10 + 1}},
		{"from the first to the last, 0 ppm", api.Span{Lo: -far, Hi: -far}, 0, far, 0, api.Span{Lo: -far, Hi: 0}},
		{"the last tick", api.Span{Lo: 10, Hi: 20}, far - 1, far, 0, api.Span{Lo: 10, Hi: 21}},
		{"all times", api.Span{Lo: -far, Hi: far}, 5, 9, 0, api.Span{Lo: -far, Hi: far}},
		{"all times, MostPpm", api.Span{Lo: -far, Hi: far}, 0, far, api.MostPpm, api.Span{Lo: -far, Hi: far}},
		{"the last time", api.Span{Lo: far, Hi: far}, 5, 9, 50, api.Span{Lo: far, Hi: far}},
		{"the last time, at the same reading", api.Span{Lo: far, Hi: far}, 5, 5, 50, api.Span{Lo: far, Hi: far}},
		{"just Far", api.Span{Lo: 10, Hi: far - 4}, 5, 9, 0, api.Span{Lo: 10, Hi: far}},
		{"drawn back to Far by one", api.Span{Lo: 10, Hi: far - 3}, 5, 9, 0, api.Span{Lo: 10, Hi: far}},
		{"the slack drawn back to Far", api.Span{Lo: 10, Hi: far - 4}, 5, 9, 1, api.Span{Lo: 10, Hi: far}},
		{"the first time", api.Span{Lo: -far, Hi: -far}, 5, 9, 0, api.Span{Lo: -far, Hi: -far + 4}},
	} {
		if got, err := clock.Sample(c.told, c.asked, c.got, c.ppm); got != c.want || err != api.OK {
			t.Errorf("%s: %v and %d, want %v", c.name, got, err, c.want)
		}
	}
}

func TestSampleOfAll(t *testing.T) { // P8.1: against numbers without an end
	random := rand.New(rand.NewSource(8))
	for range 30000 {
		reach := far >> random.Intn(59)
		a, b := random.Int63n(2*reach+1)-reach, random.Int63n(2*reach+1)-reach
		told := api.Span{Lo: min(a, b), Hi: max(a, b)}
		got := random.Int63n(far>>random.Intn(59) + 1)
		asked := random.Int63n(got + 1)
		ppm := random.Intn(api.MostPpm + 1)
		want := api.Span{Lo: told.Lo, Hi: grownOf(told, got-asked, ppm).Hi}
		if s, err := clock.Sample(told, asked, got, ppm); s != want || err != api.OK || !span.Right(s) {
			t.Fatalf("Sample of %v, asked at %d, got at %d, with %d ppm: %v and %d, want %v", told, asked, got, ppm, s, err, want)
		}
	}
}

func TestSampleOfWrong(t *testing.T) { // P8.1, P0, R1: one argument that is wrong, and several
	told := api.Span{Lo: 10, Hi: 20}
	wrong := func(s api.Span, asked, got int64, ppm int) {
		if sample, err := clock.Sample(s, asked, got, ppm); sample != (api.Span{}) || err != api.ErrArg {
			t.Errorf("Sample of %v, asked at %d, got at %d, with %d ppm: %v and %d", s, asked, got, ppm, sample, err)
		}
	}
	for _, s := range wrongSpans() {
		wrong(s, 5, 9, 0)
		wrong(s, 0, 0, 0)
		wrong(s, 0, far, api.MostPpm)
		wrong(s, -1, far+1, -1)
	}
	for _, r := range wrongReadings() {
		wrong(told, r, 9, 0)
		wrong(told, r, far, api.MostPpm)
		wrong(told, 5, r, 0)
		wrong(told, 0, r, 50)
		wrong(told, r, r, 0)
		for _, other := range wrongReadings() {
			wrong(told, r, other, 50)
		}
	}
	for _, ppm := range wrongRates() {
		wrong(told, 5, 9, ppm)
		wrong(told, 0, 0, ppm)
		wrong(told, 0, far, ppm)
		wrong(told, 9, 5, ppm)
	}
	for _, asked := range []int64{1, 2, 9, 1000000, far - 1, far} {
		wrong(told, asked, asked-1, 0)
		wrong(told, asked, asked-1, api.MostPpm)
		wrong(told, asked, 0, 50)
	}
}

func TestNew(t *testing.T) { // P8.2
	for _, ppm := range []int{0, 1, 2, 50, 1000, 99999, api.MostPpm} {
		if c, err := clock.New(ppm); c != (clock.Clock{Ppm: ppm}) || err != api.OK {
			t.Errorf("%d: %v and %d", ppm, c, err)
		}
	}
	for ppm := range api.MostPpm + 1 {
		if c, err := clock.New(ppm); c != (clock.Clock{Ppm: ppm}) || err != api.OK {
			t.Fatalf("%d: %v and %d", ppm, c, err)
		}
	}
}

func TestNewOfWrong(t *testing.T) { // P8.2, P0, R1
	for _, ppm := range wrongRates() {
		if c, err := clock.New(ppm); c != (clock.Clock{}) || err != api.ErrArg {
			t.Errorf("%d: %v and %d", ppm, c, err)
		}
	}
}

func TestOff(t *testing.T) { // P8.2: of clocks that are on, off, or not valid
	for _, c := range append(append(validClocks(), wrongClocks()...), clock.Clock{Ppm: 3, On: true, At: far, S: api.Span{Lo: 1, Hi: 2}}) {
		off := clock.Off(c)
		if off != (clock.Clock{Ppm: c.Ppm}) {
			t.Errorf("%v: %v", c, off)
		}
		if again := clock.Off(off); again != off {
			t.Errorf("%v, twice: %v and %v", c, off, again)
		}
		if s, err := clock.Now(off, 9); s != (api.Span{}) || err != api.ErrTime {
			t.Errorf("%v: Now answers %v and %d", off, s, err)
		}
	}
}

func TestSet(t *testing.T) { // P8.2: of clocks that are off and on; with samples that agree, and with liars
	agree := []api.Span{{Lo: 1, Hi: 9}, {Lo: 4, Hi: 12}, {Lo: -2, Hi: 7}}
	example := []api.Span{{Lo: 1, Hi: 5}, {Lo: 4, Hi: 9}, {Lo: 20, Hi: 30}}
	for _, c := range []struct {
		name    string
		samples []api.Span
		liars   int
		want    api.Span
	}{
		{"one", []api.Span{{Lo: 10, Hi: 20}}, 0, api.Span{Lo: 10, Hi: 20}},
		{"the zero interval", []api.Span{{}}, 0, api.Span{}},
		{"all times", []api.Span{{Lo: -far, Hi: far}}, 0, api.Span{Lo: -far, Hi: far}},
		{"the last time", []api.Span{{Lo: far, Hi: far}}, 0, api.Span{Lo: far, Hi: far}},
		{"they agree", agree, 0, api.Span{Lo: 4, Hi: 7}},
		{"they agree, one may lie", agree, 1, api.Span{Lo: 1, Hi: 9}},
		{"they agree, two may lie", agree, 2, api.Span{Lo: -2, Hi: 12}},
		{"one lies", example, 1, api.Span{Lo: 4, Hi: 5}},
		{"one lies, two may", example, 2, api.Span{Lo: 1, Hi: 30}},
		{"two of five lie", append(slices.Clone(agree), api.Span{Lo: 50, Hi: 60}, api.Span{Lo: -60, Hi: 3}), 2, api.Span{Lo: 1, Hi: 7}},
		{"63 of 64 may lie", slices.Repeat([]api.Span{{Lo: 3, Hi: 4}}, 64), 63, api.Span{Lo: 3, Hi: 4}},
	} {
		for _, before := range append(validClocks(), clock.Clock{}, clock.Clock{Ppm: 50}, clock.Clock{Ppm: api.MostPpm}, clock.Clock{Ppm: 9, At: -5, S: api.Span{Lo: 3, Hi: 1}}) {
			for _, at := range []int64{0, 1, 6, 8, 1000000, far - 1, far} {
				want := clock.Clock{Ppm: before.Ppm, On: true, At: at, S: c.want}
				if set, err := clock.Set(before, at, c.samples, c.liars); set != want || err != api.OK {
					t.Fatalf("%s: %v set at %d: %v and %d, want %v", c.name, before, at, set, err, want)
				}
			}
		}
	}
}

// randomSpans is n valid intervals with times from -reach to reach.
func randomSpans(random *rand.Rand, n int, reach int64) []api.Span {
	l := make([]api.Span, n)
	for i := range l {
		a, b := random.Int63n(2*reach+1)-reach, random.Int63n(2*reach+1)-reach
		l[i] = api.Span{Lo: min(a, b), Hi: max(a, b)}
	}
	return l
}

func TestSetOfAll(t *testing.T) { // P8.2: the interval, or the error, is Fuse's
	random := rand.New(rand.NewSource(2))
	clocks := append(validClocks(), clock.Clock{}, clock.Clock{Ppm: 50})
	seen := map[api.Errno]int{}
	for range 20000 {
		samples := randomSpans(random, random.Intn(12), far>>random.Intn(60))
		before, at, liars := clocks[random.Intn(len(clocks))], random.Int63n(far+1), random.Intn(len(samples)+3)-1
		set, err := clock.Set(before, at, samples, liars)
		fused, wantErr := sweep.Fuse(samples, liars)
		want := clock.Clock{}
		if wantErr == api.OK {
			want = clock.Clock{Ppm: before.Ppm, On: true, At: at, S: fused}
		}
		if set != want || err != wantErr {
			t.Fatalf("%v set at %d by %v with %d liars: %v and %d, want %v and %d", before, at, samples, liars, set, err, want, wantErr)
		}
		seen[err]++
	}
	if seen[api.OK] < 1000 || seen[api.ErrArg] < 1000 || seen[api.ErrTime] < 1000 {
		t.Error("too few of a kind", seen)
	}
}

// faultyLists is lists and numbers of liars for which Fuse has an error, by that error.
func faultyLists() map[api.Errno][]faulty {
	one, apart := []api.Span{{Lo: 10, Hi: 20}}, []api.Span{{Lo: 1, Hi: 5}, {Lo: 6, Hi: 9}, {Lo: 20, Hi: 30}}
	all := map[api.Errno][]faulty{
		api.ErrTime: {{apart, 0}, {apart, 1}, {apart[:2], 0}, {apart[1:], 0}, {[]api.Span{{Lo: -far, Hi: -far}, {Lo: far, Hi: far}}, 0}},
		api.ErrArg: {
			{nil, 0}, {nil, -1}, {nil, 1}, {[]api.Span{}, 0}, {one[:0], 0}, {make([]api.Span, 65), 0}, {make([]api.Span, 65), 64}, {make([]api.Span, 1000), 3},
			{one, -1}, {one, 1}, {one, 2}, {one, math.MinInt}, {one, math.MaxInt}, {apart, -1}, {apart, 3}, {apart, 4}, {apart, math.MinInt}, {apart, math.MaxInt},
		},
	}
	for _, s := range wrongSpans() {
		all[api.ErrArg] = append(all[api.ErrArg], faulty{[]api.Span{s}, 0}, faulty{append(slices.Clone(apart), s), 3}, faulty{append([]api.Span{s}, apart...), 0})
	}
	return all
}

type faulty struct {
	samples []api.Span
	liars   int
}

func TestSetOfWrong(t *testing.T) { // P8.2, P0, R1, R2: the errors of Fuse, with the zero clock
	for want, list := range faultyLists() {
		for _, f := range list {
			for _, before := range append(validClocks(), clock.Clock{}, clock.Clock{Ppm: 50}, clock.Clock{Ppm: api.MostPpm}) {
				for _, at := range []int64{0, 7, far} {
					if set, err := clock.Set(before, at, f.samples, f.liars); set != (clock.Clock{}) || err != want {
						t.Fatalf("%v set at %d by %v with %d liars: %v and %d, want %d", before, at, f.samples, f.liars, set, err, want)
					}
				}
			}
		}
	}
}

func TestSetAtNoReading(t *testing.T) { // P8.2, P0, R1: ErrArg, and it comes before any error of Fuse
	lists := []faulty{{[]api.Span{{Lo: 10, Hi: 20}}, 0}, {[]api.Span{{Lo: 1, Hi: 5}, {Lo: 4, Hi: 9}, {Lo: 20, Hi: 30}}, 1}}
	for _, list := range faultyLists() {
		lists = append(lists, list...)
	}
	for _, f := range lists {
		for _, at := range wrongReadings() {
			for _, before := range []clock.Clock{{}, {Ppm: 50}, {Ppm: api.MostPpm}, {Ppm: 50, On: true, At: 7, S: api.Span{Lo: 10, Hi: 20}}} {
				if set, err := clock.Set(before, at, f.samples, f.liars); set != (clock.Clock{}) || err != api.ErrArg {
					t.Fatalf("%v set at %d by %v with %d liars: %v and %d", before, at, f.samples, f.liars, set, err)
				}
			}
		}
	}
}

func TestNow(t *testing.T) { // P8.3: at its own At, later, and at Far
	at100 := clock.Clock{Ppm: 0, On: true, At: 100, S: api.Span{Lo: 10, Hi: 20}}
	fast := clock.Clock{Ppm: api.MostPpm, On: true, At: 100, S: api.Span{Lo: 10, Hi: 20}}
	slow := clock.Clock{Ppm: 2, On: true, At: 0, S: api.Span{Lo: -10, Hi: 20}}
	for _, c := range []struct {
		name string
		c    clock.Clock
		at   int64
		want api.Span
	}{
		{"its own At", at100, 100, api.Span{Lo: 10, Hi: 20}},
		{"one later", at100, 101, api.Span{Lo: 11, Hi: 21}},
		{"later", at100, 150, api.Span{Lo: 60, Hi: 70}},
		{"at Far", at100, far, api.Span{Lo: far - 90, Hi: far - 80}},
		{"MostPpm, its own At", fast, 100, api.Span{Lo: 10, Hi: 20}},
		{"MostPpm, one later", fast, 101, api.Span{Lo: 10, Hi: 22}},
		{"MostPpm, ten later", fast, 110, api.Span{Lo: 19, Hi: 31}},
		{"MostPpm, eleven later", fast, 111, api.Span{Lo: 19, Hi: 33}},
		{"2 ppm, its own At", slow, 0, api.Span{Lo: -10, Hi: 20}},
		{"2 ppm, a million later", slow, 1000000, api.Span{Lo: 999988, Hi: 1000022}},
		{"2 ppm, a million and one", slow, 1000001, api.Span{Lo: 999988, Hi: 1000024}},
		{"set at Far", clock.Clock{Ppm: 50, On: true, At: far, S: api.Span{Lo: 10, Hi: 20}}, far, api.Span{Lo: 10, Hi: 20}},
		{"from 0 to Far", clock.Clock{Ppm: 0, On: true, S: api.Span{Lo: -far, Hi: -far}}, far, api.Span{}},
		{"from 0 to Far, MostPpm", clock.Clock{Ppm: api.MostPpm, On: true, S: api.Span{Lo: -far, Hi: -far + 9}}, far, api.Span{Lo: -far/10 - 1, Hi: far/10 + 10}},
		{"drawn back to Far", clock.Clock{Ppm: 50, On: true, At: 7, S: api.Span{Lo: 10, Hi: far - 5}}, 13, api.Span{Lo: 15, Hi: far}},
		{"all times", clock.Clock{Ppm: 50, On: true, At: 7, S: api.Span{Lo: -far, Hi: far}}, 8, api.Span{Lo: -far, Hi: far}},
		{"the last time", clock.Clock{Ppm: 50, On: true, At: 7, S: api.Span{Lo: far, Hi: far}}, 9, api.Span{Lo: far, Hi: far}},
		{"the zero interval", clock.Clock{On: true}, 0, api.Span{}},
	} {
		if got, err := clock.Now(c.c, c.at); got != c.want || err != api.OK {
			t.Errorf("%s: %v and %d, want %v", c.name, got, err, c.want)
		}
	}
}

func TestNowOfAll(t *testing.T) { // P8.3: against numbers without an end
	random := rand.New(rand.NewSource(9))
	for range 30000 {
		at := random.Int63n(far>>random.Intn(59) + 1)
		c := clock.Clock{Ppm: random.Intn(api.MostPpm + 1), On: true, At: random.Int63n(at + 1), S: randomSpans(random, 1, far>>random.Intn(60))[0]}
		want := grownOf(c.S, at-c.At, c.Ppm)
		if got, err := clock.Now(c, at); got != want || err != api.OK {
			t.Fatalf("%v at %d: %v and %d, want %v", c, at, got, err, want)
		}
	}
	for _, c := range validClocks() {
		if got, err := clock.Now(c, c.At); got != c.S || err != api.OK {
			t.Errorf("%v at its At: %v and %d", c, got, err)
		}
		if got, err := clock.Now(c, far); got != grownOf(c.S, far-c.At, c.Ppm) || err != api.OK {
			t.Errorf("%v at Far: %v and %d", c, got, err)
		}
	}
}

func TestNowOfWrong(t *testing.T) { // P8.3, P0, R1: clocks that are off or not valid, readings that are none or before At
	wrong := func(c clock.Clock, at int64) {
		if s, err := clock.Now(c, at); s != (api.Span{}) || err != api.ErrTime {
			t.Errorf("%v at %d: %v and %d", c, at, s, err)
		}
	}
	for _, c := range wrongClocks() {
		for _, at := range append(wrongReadings(), 0, 1, 6, 7, 8, 1000000, far-1, far, c.At) {
			wrong(c, at)
		}
	}
	for _, c := range validClocks() {
		for _, at := range append(wrongReadings(), c.At-1, c.At-2) {
			wrong(c, at)
		}
		if c.At > 0 {
			wrong(c, 0)
		}
		wrong(clock.Off(c), c.At)
	}
}

// world is a true time and the reading of a hardware clock that deviates from it.
type world struct{ time, reading, began, start, rate int64 } // by rate millionths the time goes faster than the clock

func newWorld(time, reading, rate int64) *world {
	return &world{time: time, reading: reading, began: time, start: reading, rate: rate}
}

// advance lets the hardware clock go on; as the time is counted from the start, no rounding adds up.
func (w *world) advance(ticks int64) {
	w.reading += ticks
	gone := w.reading - w.start
	w.time = w.began + gone + gone*w.rate/1000000
}

// around is an interval that contains the world's time, as far as wide on both sides.
func (w *world) around(random *rand.Rand, wide int64) api.Span {
	return api.Span{Lo: w.time - random.Int63n(wide+1), Hi: w.time + random.Int63n(wide+1)}
}

// ask lets n servers, of which some lie, be asked in turn, and answers their samples at the last reading.
func (w *world) ask(t *testing.T, random *rand.Rand, n, liars, ppm int) []api.Span {
	type reply struct {
		told       api.Span
		asked, got int64
	}
	replies := make([]reply, n)
	lies := random.Perm(n)[:liars]
	for i := range replies {
		replies[i].asked = w.reading
		w.advance(random.Int63n(5000))
		replies[i].told = w.around(random, 300)
		if slices.Contains(lies, i) {
			replies[i].told = randomSpans(random, 1, far>>random.Intn(60))[0]
		}
		w.advance(random.Int63n(5000))
		replies[i].got = w.reading
	}
	var samples []api.Span
	for _, r := range replies {
		sample, err := clock.Sample(r.told, r.asked, r.got, ppm)
		if err != api.OK {
			t.Fatal("no sample", r, err)
		}
		samples = append(samples, span.Grow(sample, w.reading-r.got, ppm))
	}
	return samples
}

func TestTimeLiesWithinNow(t *testing.T) { // P8.4, P3: whatever the liars tell, as fast or as slow as the clock may be
	random := rand.New(rand.NewSource(84))
	for range 4000 {
		n := 1 + random.Intn(9)
		liars := random.Intn(n)
		ppm := []int{0, 1, 50, 1000, api.MostPpm}[random.Intn(5)]
		rate := []int64{0, int64(ppm), -int64(ppm), random.Int63n(2*int64(ppm)+1) - int64(ppm)}[random.Intn(4)]
		w := newWorld(random.Int63n(2000000)-1000000, random.Int63n(1000000), rate)
		c, _ := clock.New(ppm)
		for range 2 { // the second time it is set anew, while it is on
			samples := w.ask(t, random, n, liars, ppm)
			set, err := clock.Set(c, w.reading, samples, liars)
			if err != api.OK {
				t.Fatalf("%v with %d liars: %d", samples, liars, err)
			}
			stays(t, random, set, w)
			c = set
		}
	}
}

// stays tells where the time is not within Now, at once and later, or where Now becomes narrower.
func stays(t *testing.T, random *rand.Rand, c clock.Clock, w *world) {
	var width int64
	for range 12 {
		s, err := clock.Now(c, w.reading)
		if err != api.OK || !span.Has(s, w.time) {
			t.Fatalf("%v at %d: %v and %d, but the time is %d", c, w.reading, s, err, w.time)
		}
		if span.Width(s) < width {
			t.Fatalf("%v at %d: %v, which is narrower than %d", c, w.reading, s, width)
		}
		width = span.Width(s)
		w.advance(random.Int63n(int64(1) << random.Intn(30)))
	}
}

func TestSampleHasTheTime(t *testing.T) { // P8.4, P3: a server that knows the time, and replies at once or at last
	for _, ppm := range []int{0, 1, 2, 50, 999, api.MostPpm} {
		for _, rate := range []int64{0, int64(ppm), -int64(ppm)} {
			for _, ticks := range []int64{0, 1, 2, 9, 10, 11, 19, 20, 1000, 1001, 999999, 1000000, 1000001, 500000000} {
				w := newWorld(-77, 5, rate)
				atOnce := api.Span{Lo: w.time, Hi: w.time}
				w.advance(ticks)
				atLast := api.Span{Lo: w.time, Hi: w.time}
				for _, told := range []api.Span{atOnce, atLast} {
					if s, err := clock.Sample(told, 5, w.reading, ppm); err != api.OK || !span.Has(s, w.time) || !span.Has(s, told.Lo) {
						t.Errorf("%v after %d ticks with %d ppm: %v and %d, but the time is %d", told, ticks, ppm, s, err, w.time)
					}
				}
			}
		}
	}
}

func TestWidth(t *testing.T) { // P8.4: never narrower at a later reading, but where it reaches Far
	random := rand.New(rand.NewSource(83))
	readings := []int64{0, 1, 2, 3, 9, 10, 11, 999999, 1000000, 1000001, far / 2, far - 1, far}
	for range 200 {
		readings = append(readings, random.Int63n(far>>random.Intn(59)+1))
	}
	slices.Sort(readings)
	for _, ppm := range []int{0, 1, 50, api.MostPpm} {
		for _, s := range []api.Span{{}, {Lo: 10, Hi: 20}, {Lo: -far, Hi: -far}, {Lo: -far, Hi: -far + 100}, {Lo: far - 9, Hi: far}, {Lo: -far, Hi: far}} {
			c, width := clock.Clock{Ppm: ppm, On: true, S: s}, int64(0)
			for _, at := range readings {
				now, err := clock.Now(c, at)
				if err != api.OK || !span.Right(now) || span.Width(now) < width && now.Hi != far {
					t.Fatalf("%v at %d: %v and %d, before as wide as %d", c, at, now, err, width)
				}
				width = span.Width(now)
			}
		}
	}
}

func TestNarrowerAtFar(t *testing.T) { // P8.4: what lies behind Far is not told, and the time is in the rest
	c, err := clock.Set(clock.Clock{Ppm: 50}, 5, []api.Span{{Lo: far - 100, Hi: far - 50}}, 0)
	if err != api.OK {
		t.Fatal(err)
	}
	for _, x := range []struct {
		at   int64
		want api.Span
	}{
		{5, api.Span{Lo: far - 100, Hi: far - 50}}, {54, api.Span{Lo: far - 52, Hi: far}}, {95, api.Span{Lo: far - 11, Hi: far}},
		{106, api.Span{Lo: far, Hi: far}}, {1000, api.Span{Lo: far, Hi: far}},
	} {
		if now, err := clock.Now(c, x.at); now != x.want || err != api.OK {
			t.Errorf("at %d: %v and %d, want %v", x.at, now, err, x.want)
		}
	}
}

// answers is what all functions answer for a clock, a reading, samples and liars.
type answers struct {
	sample, now                         api.Span
	fresh, set, off                     clock.Clock
	sampleErr, freshErr, setErr, nowErr api.Errno
}

func ask(c clock.Clock, at int64, samples []api.Span, liars int) answers {
	var a answers
	a.sample, a.sampleErr = clock.Sample(c.S, c.At, at, c.Ppm)
	a.fresh, a.freshErr = clock.New(c.Ppm)
	a.set, a.setErr = clock.Set(c, at, samples, liars)
	a.off = clock.Off(c)
	a.now, a.nowErr = clock.Now(c, at)
	return a
}

// question is the arguments of ask.
type question struct {
	c       clock.Clock
	at      int64
	samples []api.Span
	liars   int
}

func (q question) ask() answers { return ask(q.c, q.at, q.samples, q.liars) }

// questions is of all kinds, with answers and with errors.
func questions() []question {
	random := rand.New(rand.NewSource(6))
	var all []question
	for _, c := range append(validClocks(), wrongClocks()...) {
		for _, at := range []int64{-1, 7, 1000, far, c.At} {
			samples := randomSpans(random, random.Intn(9), 50)
			all = append(all, question{c, at, samples, random.Intn(len(samples)+2) - 1})
		}
	}
	for _, list := range faultyLists() {
		for _, f := range list {
			all = append(all, question{clock.Clock{Ppm: 50}, 7, f.samples, f.liars})
		}
	}
	return all
}

func TestArgumentsStay(t *testing.T) { // R3, P8.2: the list, what lies behind it, and the clock
	for _, q := range questions() {
		room := append(slices.Clone(q.samples), randomSpans(rand.New(rand.NewSource(1)), 100, 60)...)
		before, c := slices.Clone(room), q.c
		ask(q.c, q.at, room[:len(q.samples)], q.liars)
		if !slices.Equal(room, before) || q.c != c {
			t.Fatalf("%v and %v were changed: %v and %v", c, before, q.c, room)
		}
	}
}

func TestListIsNotKept(t *testing.T) { // R3, R4: what is written into the list afterwards changes no clock
	l := []api.Span{{Lo: 1, Hi: 5}, {Lo: 4, Hi: 9}, {Lo: 20, Hi: 30}}
	first, _ := clock.Set(clock.Clock{}, 7, l, 1)
	l[0] = api.Span{Lo: 25, Hi: 26}
	second, _ := clock.Set(first, 8, l, 1)
	if first != (clock.Clock{On: true, At: 7, S: api.Span{Lo: 4, Hi: 5}}) || second != (clock.Clock{On: true, At: 8, S: api.Span{Lo: 25, Hi: 26}}) {
		t.Error(first, second)
	}
	if now, err := clock.Now(first, 7); now != (api.Span{Lo: 4, Hi: 5}) || err != api.OK {
		t.Error(now, err)
	}
}

func TestCallsAreApart(t *testing.T) { // R4: whatever was called before
	all := questions()
	first := make([]answers, len(all))
	for i, q := range all {
		first[i] = q.ask()
	}
	random := rand.New(rand.NewSource(4))
	for _, i := range random.Perm(len(all)) {
		all[random.Intn(len(all))].ask()
		if got := all[i].ask(); got != first[i] {
			t.Errorf("%v: %v, at first %v", all[i], got, first[i])
		}
	}
}

func TestSeveralGoroutines(t *testing.T) { // R5: on the same lists, too
	all := questions()
	want := make([]answers, len(all))
	for i, q := range all {
		want[i] = q.ask()
	}
	var group sync.WaitGroup
	for range 8 {
		group.Go(func() {
			for i, q := range all {
				if got := q.ask(); got != want[i] {
					t.Errorf("%v: %v, want %v", q, got, want[i])
				}
			}
		})
	}
	group.Wait()
}

func TestImports(t *testing.T) { // R6, and the map: clock imports api, span and sweep, and calls what their chapters list
	listed := map[string]bool{
		"span.Right": true, "span.Has": true, "span.Meet": true, "span.Hull": true, "span.Width": true, "span.Slack": true, "span.Grow": true,
		"sweep.Votes": true, "sweep.Fuse": true, "sweep.Most": true,
	}
	allowed := map[string]bool{`"bartizan/api"`: true, `"bartizan/span"`: true, `"bartizan/sweep"`: true}
	files, err := filepath.Glob("*.go")
	if err != nil || len(files) == 0 {
		t.Fatal("no files", err)
	}
	for _, name := range files {
		if strings.HasSuffix(name, "_test.go") {
			continue
		}
		file, err := parser.ParseFile(token.NewFileSet(), name, nil, 0)
		if err != nil {
			t.Fatal(err)
		}
		for _, i := range file.Imports {
			if p := i.Path.Value; strings.Contains(p, "bartizan") && !allowed[p] {
				t.Errorf("%s imports %s", name, p)
			}
		}
		ast.Inspect(file, func(n ast.Node) bool {
			if x, ok := n.(*ast.SelectorExpr); ok {
				from, ok := x.X.(*ast.Ident)
				if ok && (from.Name == "span" || from.Name == "sweep") && !listed[from.Name+"."+x.Sel.Name] {
					t.Errorf("%s calls %s.%s", name, from.Name, x.Sel.Name)
				}
			}
			return true
		})
	}
}
