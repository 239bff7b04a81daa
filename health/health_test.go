package health

import (
	"math"
	"math/big"
	"math/rand"
	"testing"

	"pouch/api"
)

const (
	least    = 0x1p-1074 // the least float above 0
	normal   = 0x1p-1022
	below1   = 1 - 0x1p-53
	above1   = 1 + 0x1p-52
	topCount = 1 << 40
)

func minusZero() float64 { return math.Copysign(0, -1) }

// nans are NaNs of both signs, quiet and not, with the least and the greatest fractions.
func nans() []float64 {
	l := []float64{math.NaN(), -math.NaN()}
	for _, n := range []uint64{
		0x7ff8000000000000, 0x7ff0000000000001, 0x7fffffffffffffff,
		0xfff8000000000000, 0xfff0000000000001, 0xffffffffffffffff,
	} {
		l = append(l, math.Float64frombits(n))
	}
	return l
}

// scores are floats that a health with observations may have.
func scores() []float64 {
	return []float64{
		0, least, 2 * least, normal - least, normal, 0x1p-54, 0x1.8p-53, 0.1, 0.25, 1.0 / 3,
		math.Nextafter(0.5, 0), 0.5, math.Nextafter(0.5, 1), 0.7, 1 - 0x1p-52, below1, 1,
	}
}

// beyond are floats that are neither NaN nor a score.
func beyond() []float64 {
	return []float64{
		minusZero(), -least, -normal, -0.5, -1, -7, -math.MaxFloat64, math.Inf(-1),
		above1, 1.5, 2, math.MaxFloat64, math.Inf(1),
	}
}

func floats() []float64 {
	return append(append(scores(), beyond()...), nans()...)
}

func counts() []int {
	return []int{
		math.MinInt, math.MinInt + 1, -topCount, -2, -1, 0, 1, 2, 3,
		topCount - 1, topCount, topCount + 1, 1 << 50, math.MaxInt - 1, math.MaxInt,
	}
}

func weights() []float64 {
	return []float64{least, normal, 0x1p-60, 0.077, 0.1, 0.25, 1.0 / 3, 0.5, math.Nextafter(0.5, 1), below1, 1}
}

func wrongWeights() []float64 {
	return append([]float64{
		0, minusZero(), -least, -0.25, -1, math.Inf(-1), above1, 1.5, 2, math.MaxFloat64, math.Inf(1),
	}, nans()...)
}

// wrongHealths are healths that are not valid, each by one fault or by two.
func wrongHealths() []api.Health {
	var l []api.Health
	for _, s := range floats() {
		for _, n := range counts() {
			if h := (api.Health{Score: s, Count: n}); !wantValid(h) {
				l = append(l, h)
			}
		}
	}
	return l
}

// equal holds two floats against each other bit by bit, but takes all NaNs as one.
func equal(a, b float64) bool {
	return a != a && b != b || math.Float64bits(a) == math.Float64bits(b)
}

func equalHealth(a, b api.Health) bool {
	return equal(a.Score, b.Score) && a.Count == b.Count
}

// wantValid tells by the words of the chapter whether h is valid.
func wantValid(h api.Health) bool {
	switch {
	case h.Count < 0 || h.Count > topCount:
		return false
	case h.Count == 0:
		return h.Score != h.Score
	case h.Score == 0:
		return 1/h.Score > 0
	}
	return h.Score > 0 && h.Score <= 1
}

// unit takes a float that is not NaN to the range from +0 to 1.
func unit(x float64) float64 {
	switch {
	case x > 1:
		return 1
	case x > 0:
		return x
	}
	return 0
}

// exact has room for every difference, product and sum of two finite floats.
func exact(x float64) *big.Float {
	return new(big.Float).SetPrec(4400).SetFloat64(x)
}

func rounded(x *big.Float) float64 {
	f, _ := x.Float64()
	return f
}

// wantScore works out each of the three steps exactly, and rounds it.
func wantScore(s, x, w float64) float64 {
	d := rounded(exact(x).Sub(exact(x), exact(s)))
	p := rounded(exact(w).Mul(exact(w), exact(d)))
	return unit(rounded(exact(s).Add(exact(s), exact(p))))
}

func wantNote(h api.Health, x, w float64) (api.Health, api.Errno) {
	if !wantValid(h) || w != w || !(w > 0) || w > 1 {
		return api.Health{}, api.ErrForm
	}
	if x != x {
		return h, api.OK
	}
	next := api.Health{Score: unit(x), Count: h.Count}
	if h.Count != 0 {
		next.Score = wantScore(h.Score, unit(x), w)
	}
	if next.Count < topCount {
		next.Count++
	}
	return next, api.OK
}

func wantGood(h api.Health, floor float64) (bool, api.Errno) {
	switch {
	case !wantValid(h):
		return false, api.ErrForm
	case h.Count == 0, floor != floor, h.Score == floor, h.Score > floor:
		return true, api.OK
	}
	return false, api.OK
}

func judgeCheck(t *testing.T, h api.Health) {
	t.Helper()
	want := api.ErrForm
	if wantValid(h) {
		want = api.OK
	}
	if got := Check(h); got != want {
		t.Errorf("Check(%+v): %v, want %v", h, got, want)
	}
}

// judgeNote also asks that what Note answers is valid, or the zero value beside an error.
func judgeNote(t *testing.T, h api.Health, x, w float64) {
	t.Helper()
	want, wantE := wantNote(h, x, w)
	got, e := Note(h, x, w)
	if !equalHealth(got, want) || e != wantE {
		t.Errorf("Note(%+v, %v, %v): %+v, %v, want %+v, %v", h, x, w, got, e, want, wantE)
	}
	if e == api.OK && Check(got) != api.OK {
		t.Errorf("Note(%+v, %v, %v): %+v is not valid", h, x, w, got)
	}
}

func judgeGood(t *testing.T, h api.Health, floor float64) {
	t.Helper()
	want, wantE := wantGood(h, floor)
	if got, e := Good(h, floor); got != want || e != wantE {
		t.Errorf("Good(%+v, %v): %v, %v, want %v, %v", h, floor, got, e, want, wantE)
	}
}

// note asks Note for a health, and that it is answered without an error.
func note(t *testing.T, h api.Health, x, w float64) api.Health {
	t.Helper()
	next, e := Note(h, x, w)
	if e != api.OK {
		t.Fatalf("Note(%+v, %v, %v): %v", h, x, w, e)
	}
	return next
}

// P7.1: cases of Check written out.
func TestCheck(t *testing.T) {
	nan, ok, wrong := math.NaN(), api.OK, api.ErrForm
	for _, c := range []struct {
		name  string
		score float64
		count int
		want  api.Errno
	}{
		{"none", nan, 0, ok},
		{"the zero value", 0, 0, wrong},
		{"a score without a count", 0.5, 0, wrong},
		{"-0 without a count", minusZero(), 0, wrong},
		{"1 without a count", 1, 0, wrong},
		{"an infinity without a count", math.Inf(1), 0, wrong},
		{"no score with the count 1", nan, 1, wrong},
		{"no score with the greatest count", nan, topCount, wrong},
		{"no score with the count -1", nan, -1, wrong},
		{"no score with a count too great", nan, topCount + 1, wrong},
		{"half", 0.5, 1, ok},
		{"half with the greatest count", 0.5, topCount, ok},
		{"half with the count below it", 0.5, topCount - 1, ok},
		{"half with the count above it", 0.5, topCount + 1, wrong},
		{"half with the count -1", 0.5, -1, wrong},
		{"half with the greatest int", 0.5, math.MaxInt, wrong},
		{"half with the least int", 0.5, math.MinInt, wrong},
		{"+0", 0, 1, ok},
		{"-0", minusZero(), 1, wrong},
		{"the least above 0", least, 1, ok},
		{"the greatest below 0", -least, 1, wrong},
		{"1", 1, 1, ok},
		{"the next below 1", below1, 1, ok},
		{"the next above 1", above1, 1, wrong},
		{"-1", -1, 1, wrong},
		{"+Inf", math.Inf(1), 1, wrong},
		{"-Inf", math.Inf(-1), 1, wrong},
	} {
		if got := Check(api.Health{Score: c.score, Count: c.count}); got != c.want {
			t.Errorf("%s: %v, want %v", c.name, got, c.want)
		}
	}
}

// P7.1: every score with every count.
func TestCheckAllEdges(t *testing.T) {
	for _, s := range floats() {
		for _, n := range counts() {
			judgeCheck(t, api.Health{Score: s, Count: n})
		}
	}
}

// P7.1: a NaN is one, whatever its bits and its sign are.
func TestNaNScores(t *testing.T) {
	for _, s := range nans() {
		h := api.Health{Score: s}
		if e := Check(h); e != api.OK {
			t.Errorf("%x: Check: %v", math.Float64bits(s), e)
		}
		if got := note(t, h, 0.5, 0.25); got != (api.Health{Score: 0.5, Count: 1}) {
			t.Errorf("%x: Note: %+v", math.Float64bits(s), got)
		}
		if good, e := Good(h, 1); !good || e != api.OK {
			t.Errorf("%x: Good: %v, %v", math.Float64bits(s), good, e)
		}
	}
}

// P7.1: None is valid, and always the same.
func TestNone(t *testing.T) {
	for range 2 {
		if h := None(); !math.IsNaN(h.Score) || h.Count != 0 || Check(h) != api.OK {
			t.Errorf("%+v, %v", h, Check(h))
		}
	}
}

// P7.1: the example of the chapter.
func TestExample(t *testing.T) {
	h := note(t, None(), 0.5, 0.25)
	if h != (api.Health{Score: 0.5, Count: 1}) {
		t.Fatalf("%+v", h)
	}
	if h = note(t, h, 1, 0.25); h != (api.Health{Score: 0.625, Count: 2}) {
		t.Fatalf("%+v", h)
	}
}

// P7.1: cases of Note written out, with the health that comes of each.
func TestNote(t *testing.T) {
	inf, minus := math.Inf(1), math.Inf(-1)
	half := api.Health{Score: 0.5, Count: 3}
	for _, c := range []struct {
		name  string
		h     api.Health
		x, w  float64
		score float64
		count int
	}{
		{"the first, whatever the weight", None(), 0.7, least, 0.7, 1},
		{"the first, +0", None(), 0, 1, 0, 1},
		{"the first, -0", None(), minusZero(), 1, 0, 1},
		{"the first, below 0", None(), -least, 0.5, 0, 1},
		{"the first, far below 0", None(), -7, 0.5, 0, 1},
		{"the first, -Inf", None(), minus, 0.5, 0, 1},
		{"the first, 1", None(), 1, 0.5, 1, 1},
		{"the first, just above 1", None(), above1, 0.5, 1, 1},
		{"the first, +Inf", None(), inf, 0.5, 1, 1},
		{"the first, the least above 0", None(), least, 0.5, least, 1},
		{"up", half, 1, 0.5, 0.75, 4},
		{"down", half, 0, 0.5, 0.25, 4},
		{"nowhere", half, 0.5, 0.5, 0.5, 4},
		{"the whole way up", half, 1, 1, 1, 4},
		{"the whole way down", half, 0, 1, 0, 4},
		{"the whole way to -0", half, minusZero(), 1, 0, 4},
		{"x is cut to 1 ahead of the weight", half, 7, 0.5, 0.75, 4},
		{"x is cut to 0 ahead of the weight", half, -7, 0.5, 0.25, 4},
		{"+Inf is 1", half, inf, 0.5, 0.75, 4},
		{"-Inf is 0", half, minus, 0.5, 0.25, 4},
		{"the greatest float is 1", half, math.MaxFloat64, 0.25, 0.625, 4},
		{"a weight too small to move it", half, 1, least, 0.5, 4},
		{"a weight that halves the least float", api.Health{Score: least, Count: 1}, 0, 0.5, least, 2},
		{"a weight that takes the least float off", api.Health{Score: least, Count: 1}, 0, below1, 0, 2},
		{"0 stays +0", api.Health{Score: 0, Count: 1}, minusZero(), 1, 0, 2},
		{"1 stays 1", api.Health{Score: 1, Count: 1}, 2, 1, 1, 2},
		{"1 stays 1 with a small weight", api.Health{Score: 1, Count: 1}, inf, 0.1, 1, 2},
		{"the count below the greatest", api.Health{Score: 0.5, Count: topCount - 1}, 1, 0.5, 0.75, topCount},
		{"the greatest count", api.Health{Score: 0.5, Count: topCount}, 1, 0.5, 0.75, topCount},
	} {
		got, e := Note(c.h, c.x, c.w)
		if want := (api.Health{Score: c.score, Count: c.count}); !equalHealth(got, want) || e != api.OK {
			t.Errorf("%s: %+v, %v, want %+v", c.name, got, e, want)
		}
		judgeNote(t, c.h, c.x, c.w)
	}
}

// P7.1: all edges of the score, of x and of the weight, against each other.
func TestNoteAllEdges(t *testing.T) {
	healths := []api.Health{None()}
	for _, s := range scores() {
		healths = append(healths, api.Health{Score: s, Count: 1}, api.Health{Score: s, Count: topCount})
	}
	for _, h := range healths {
		for _, x := range floats() {
			for _, w := range append(weights(), wrongWeights()...) {
				judgeNote(t, h, x, w)
			}
		}
	}
}

// P7.1: every count that is valid increases by one, but for the greatest.
func TestNoteCounts(t *testing.T) {
	for _, n := range []int{1, 2, 3, 1<<31 - 1, 1 << 31, 1<<32 - 1, 1 << 32, topCount - 2, topCount - 1} {
		if got := note(t, api.Health{Score: 1, Count: n}, 0.5, 0.5); got.Count != n+1 {
			t.Errorf("%d: %+v", n, got)
		}
	}
	h := api.Health{Score: 1, Count: topCount - 2}
	for _, want := range []int{topCount - 1, topCount, topCount, topCount} {
		if h = note(t, h, 0.5, 0.5); h.Count != want {
			t.Errorf("%+v, want the count %d", h, want)
		}
	}
}

// P7.1: an x that is NaN leaves the health as it is, the greatest count and none among them.
func TestNoteNaN(t *testing.T) {
	for _, x := range nans() {
		for _, w := range weights() {
			for _, s := range scores() {
				for _, n := range []int{1, 2, topCount - 1, topCount} {
					h := api.Health{Score: s, Count: n}
					if got := note(t, h, x, w); got != h {
						t.Errorf("Note(%+v, %v, %v): %+v", h, x, w, got)
					}
				}
			}
			if got := note(t, None(), x, w); !equalHealth(got, None()) {
				t.Errorf("Note of none, %v, %v: %+v", x, w, got)
			}
		}
	}
}

// P7.1: a weight that is refused, with the zero value beside the error, for every kind of health and of x.
func TestWrongWeights(t *testing.T) {
	healths := append([]api.Health{None(), {Score: 0.5, Count: 1}, {Score: 1, Count: topCount}}, wrongHealths()...)
	for _, w := range wrongWeights() {
		for _, h := range healths {
			for _, x := range []float64{0.5, 0, 7, math.NaN()} {
				if got, e := Note(h, x, w); !equalHealth(got, api.Health{}) || e != api.ErrForm {
					t.Errorf("Note(%+v, %v, %v): %+v, %v", h, x, w, got, e)
				}
			}
		}
	}
}

// P7.1, P7.2: a health that is not valid is refused by every function, with zero values beside the error.
func TestWrongHealths(t *testing.T) {
	for _, h := range wrongHealths() {
		if e := Check(h); e != api.ErrForm {
			t.Errorf("Check(%+v): %v", h, e)
		}
		for _, x := range floats() {
			if got, e := Note(h, x, 0.25); !equalHealth(got, api.Health{}) || e != api.ErrForm {
				t.Errorf("Note(%+v, %v, 0.25): %+v, %v", h, x, got, e)
			}
			if got, e := Good(h, x); got || e != api.ErrForm {
				t.Errorf("Good(%+v, %v): %v, %v", h, x, got, e)
			}
		}
	}
}

// fusedProduct rounds the product and the sum as one.
func fusedProduct(s, x, w float64) float64 {
	return math.FMA(w, x-s, s)
}

// roundedOnce rounds the whole of it as one.
func roundedOnce(s, x, w float64) float64 {
	d := exact(x).Sub(exact(x), exact(s))
	return rounded(d.Add(d.Mul(d, exact(w)), exact(s)))
}

// twoParts weighs the old score and x each by its part.
func twoParts(s, x, w float64) float64 {
	return float64((1-w)*s) + float64(w*x)
}

// P7.1: the three roundings; each of the other ways to reckon must be told from them by some of the cases.
func TestRoundings(t *testing.T) {
	others := []struct {
		name string
		f    func(s, x, w float64) float64
	}{{"fused", fusedProduct}, {"rounded once", roundedOnce}, {"two parts", twoParts}}
	differ := make([]int, len(others))
	r := rand.New(rand.NewSource(7))
	for range 3000 {
		s, x, w := r.Float64(), r.Float64(), r.Float64()
		h := note(t, api.Health{Score: s, Count: 1}, x, w)
		if want := wantScore(s, x, w); !equal(h.Score, want) {
			t.Fatalf("%v, %v, %v: %v, want %v", s, x, w, h.Score, want)
		}
		for i, o := range others {
			if o.f(s, x, w) != h.Score {
				differ[i]++
			}
		}
	}
	for i, o := range others {
		if differ[i] < 100 {
			t.Errorf("%s: only %d cases tell it", o.name, differ[i])
		}
	}
}

// P7.1: cases for each step that must be rounded by itself, the scores written out.
func TestRoundingsByHand(t *testing.T) {
	for _, c := range []struct {
		name                string
		s, x, w, want, once float64 // once: what a single rounding would give
	}{
		// 1 - 1.5 * 2^-53 goes to the even 1 - 2^-52; then 0.5 + 2^-54 to the even 0.5.
		{"the difference", 0x1.8p-53, 1, 0.5, 0.5, 0.5 + 0x1p-53},
		// Half of the least float goes to the even 0, and nothing is added.
		{"the product", least, 2 * least, 0.5, least, 2 * least},
		// Three halves of it go to 2 of it, the even ones.
		{"the product, up", least, 4 * least, 0.5, 3 * least, 2 * least},
		// 0.5 + 2^-54 lies between 0.5 and 0.5 + 2^-53, and goes to the even one.
		{"the sum", 0.5, 1, 0x1p-53, 0.5, 0.5},
		// From the odd neighbour, what is less than a half of the last bit is lost.
		{"the sum, lost", 0.5 + 0x1p-53, 1, 0x1p-53, 0.5 + 0x1p-53, 0.5 + 0x1p-53},
	} {
		h := note(t, api.Health{Score: c.s, Count: 1}, c.x, c.w)
		if !equal(h.Score, c.want) || !equal(h.Score, wantScore(c.s, c.x, c.w)) {
			t.Errorf("%s: %b, want %b, by the chapter %b", c.name, h.Score, c.want, wantScore(c.s, c.x, c.w))
		}
		if got := roundedOnce(c.s, c.x, c.w); got != c.once {
			t.Errorf("%s: rounded once: %b, want %b", c.name, got, c.once)
		}
	}
}

// P7.2: cases of Good written out.
func TestGood(t *testing.T) {
	half := api.Health{Score: 0.5, Count: 1}
	zero, one := api.Health{Score: 0, Count: 1}, api.Health{Score: 1, Count: topCount}
	for _, c := range []struct {
		name  string
		h     api.Health
		floor float64
		want  bool
	}{
		{"none", None(), 0.5, true},
		{"none below +Inf", None(), math.Inf(1), true},
		{"none above -Inf", None(), math.Inf(-1), true},
		{"none without a floor", None(), math.NaN(), true},
		{"above", half, 0.25, true},
		{"just it", half, 0.5, true},
		{"just above", half, math.Nextafter(0.5, 0), true},
		{"just below", half, math.Nextafter(0.5, 1), false},
		{"below", half, 0.75, false},
		{"no floor", half, math.NaN(), true},
		{"0 without a floor", zero, math.NaN(), true},
		{"+0 and +0", zero, 0, true},
		{"+0 and -0", zero, minusZero(), true},
		{"0 below the least float", zero, least, false},
		{"0 above the least float below 0", zero, -least, true},
		{"the least float above 0", api.Health{Score: least, Count: 1}, 0, true},
		{"0 above -Inf", zero, math.Inf(-1), true},
		{"0 below +Inf", zero, math.Inf(1), false},
		{"1 and 1", one, 1, true},
		{"1 above the float below it", one, below1, true},
		{"1 below the float above it", one, above1, false},
		{"1 below +Inf", one, math.Inf(1), false},
		{"1 above -Inf", one, math.Inf(-1), true},
	} {
		if got, e := Good(c.h, c.floor); got != c.want || e != api.OK {
			t.Errorf("%s: %v, %v, want %v", c.name, got, e, c.want)
		}
	}
}

// P7.2: every health against every floor, and each score against the floats beside it.
func TestGoodAllEdges(t *testing.T) {
	for _, s := range floats() {
		for _, n := range counts() {
			h := api.Health{Score: s, Count: n}
			for _, floor := range floats() {
				judgeGood(t, h, floor)
			}
			for _, to := range []float64{math.Inf(-1), math.Inf(1)} {
				judgeGood(t, h, math.Nextafter(s, to))
			}
			judgeGood(t, h, s)
		}
	}
}

// P7.1 to P7.3: any bits for floats, and long runs of observations.
func TestRandom(t *testing.T) {
	r := rand.New(rand.NewSource(11))
	any := func() float64 {
		switch r.Intn(4) {
		case 0:
			return math.Float64frombits(r.Uint64())
		case 1:
			l := floats()
			return l[r.Intn(len(l))]
		case 2:
			return math.Ldexp(r.Float64(), -r.Intn(1100))
		}
		return r.Float64()
	}
	for range 20000 {
		h := api.Health{Score: any(), Count: counts()[r.Intn(len(counts()))]}
		judgeCheck(t, h)
		judgeNote(t, h, any(), any())
		judgeGood(t, h, any())
	}
	h := None()
	for range 5000 {
		x, w := any(), weights()[r.Intn(len(weights()))]
		judgeNote(t, h, x, w)
		judgeGood(t, h, any())
		h = note(t, h, x, w)
	}
}

// P7.3: the score stays from 0 to 1, with observations that pull it to and beyond both ends.
func TestScoreStays(t *testing.T) {
	for _, s := range scores() {
		for _, w := range weights() {
			h := api.Health{Score: s, Count: 1}
			for i := range 200 {
				x := beyond()[i*5%len(beyond())]
				h = note(t, h, x, w)
				if !(h.Score >= 0 && h.Score <= 1) || math.Signbit(h.Score) || Check(h) != api.OK {
					t.Fatalf("from %v by %v: %+v", s, w, h)
				}
			}
		}
	}
}

// P7.3: the same x again and again: never farther from it, and as near as the weight allows in the end.
func TestApproach(t *testing.T) {
	for _, w := range []float64{1, below1, 0.5, 0.25, 0.1, 0.05} {
		for _, s := range scores() {
			for _, x := range floats() {
				if x != x {
					continue
				}
				h, goal := api.Health{Score: s, Count: 1}, unit(x)
				for range 1000 {
					before := math.Abs(h.Score - goal)
					h = note(t, h, x, w)
					if after := math.Abs(h.Score - goal); after > before {
						t.Fatalf("from %v to %v by %v: %v away, then %v", s, x, w, before, after)
					}
				}
				// A step is lost only if its product is below half of the score's last bit.
				if far := math.Abs(h.Score - goal); far > 0x1p-53/w {
					t.Errorf("from %v to %v by %v: %v away", s, x, w, far)
				}
			}
		}
	}
}

// P7.3: the first observation is the score, and stays it when it is repeated.
func TestRepeated(t *testing.T) {
	for _, x := range floats() {
		if x != x {
			continue
		}
		for _, w := range weights() {
			h := None()
			for i := range 50 {
				h = note(t, h, x, w)
				if want := (api.Health{Score: unit(x), Count: i + 1}); !equalHealth(h, want) {
					t.Fatalf("%v by %v, %d times: %+v", x, w, i+1, h)
				}
			}
		}
	}
}
