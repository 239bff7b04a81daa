package breaker

import (
	"math"
	"math/rand"
	"reflect"
	"slices"
	"strings"
	"testing"

	"pouch/api"
	"pouch/health"
)

const (
	topTick  = 1 << 40     // MaxTick, as the limits say it
	topUntil = 2 * topTick // as the chapter says it
	topFails = 1 << 20     // as the chapter says it
	topCount = 1 << 40     // of a health
	least    = 0x1p-1074   // the least float above 0
	below1   = 1 - 0x1p-53
	above1   = 1 + 0x1p-52
)

func minusZero() float64 { return math.Copysign(0, -1) }

// nans are NaNs of both signs, quiet and not.
func nans() []float64 {
	l := []float64{math.NaN()}
	for _, n := range []uint64{0x7ff0000000000001, 0x7fffffffffffffff, 0xfff8000000000000, 0xfff0000000000001} {
		l = append(l, math.Float64frombits(n))
	}
	return l
}

func extremes() []int {
	return []int{math.MinInt, math.MinInt + 1, -1 << 40, -2, math.MaxInt - 1, math.MaxInt}
}

// states are the three, what lies beside them, and what is far from them.
func states() []int {
	return append([]int{-1, 0, 1, 2, 3, 4, 256, 1 << 32}, extremes()...)
}

func fails() []int {
	return append([]int{-1, 0, 1, 2, 3, topFails - 1, topFails, topFails + 1, 2 * topFails, 1 << 32}, extremes()...)
}

func goodFails() []int {
	return []int{0, 1, 2, 3, topFails - 2, topFails - 1, topFails}
}

func untils() []int {
	return append([]int{-1, 0, 1, 2, topTick - 1, topTick, topTick + 1, topUntil - 1, topUntil, topUntil + 1, 2 * topUntil}, extremes()...)
}

func goodUntils() []int {
	return []int{0, 1, 2, 99, topTick - 1, topTick, topTick + 1, topUntil - 1, topUntil}
}

func ticks() []int {
	return []int{0, 1, 2, 98, 99, 100, topTick - 1, topTick}
}

func wrongTicks() []int {
	return append([]int{-1, topTick + 1, topTick + 2, topUntil, topUntil + 1, 1 << 62}, extremes()...)
}

func goodHealths() []api.Health {
	l := []api.Health{
		{Score: 0, Count: 1}, {Score: least, Count: 1}, {Score: 0.1, Count: 2}, {Score: 0.5, Count: 3},
		{Score: below1, Count: topCount - 1}, {Score: 1, Count: 1}, {Score: 1, Count: topCount}, {Score: 0, Count: topCount},
	}
	for _, s := range nans() {
		l = append(l, api.Health{Score: s})
	}
	return l
}

func wrongHealths() []api.Health {
	l := []api.Health{
		{}, {Score: 0.5}, {Score: 1}, {Score: minusZero()}, {Score: math.Inf(1)},
		{Score: minusZero(), Count: 1}, {Score: -least, Count: 1}, {Score: -1, Count: 1}, {Score: above1, Count: 1},
		{Score: math.Inf(1), Count: 1}, {Score: math.Inf(-1), Count: 1},
		{Score: 0.5, Count: -1}, {Score: 0.5, Count: topCount + 1}, {Score: 0.5, Count: math.MinInt}, {Score: 0.5, Count: math.MaxInt},
		{Score: math.NaN(), Count: -1}, {Score: math.NaN(), Count: topCount + 1},
	}
	for _, s := range nans() {
		l = append(l, api.Health{Score: s, Count: 1}, api.Health{Score: s, Count: topCount})
	}
	return l
}

func shut(fails int, score float64, count int) api.Breaker {
	return api.Breaker{State: api.Shut, Fails: fails, Health: api.Health{Score: score, Count: count}}
}

func open(fails, until int, score float64, count int) api.Breaker {
	return api.Breaker{State: api.Open, Fails: fails, Until: until, Health: api.Health{Score: score, Count: count}}
}

func half(fails int, score float64, count int) api.Breaker {
	return api.Breaker{State: api.Half, Fails: fails, Health: api.Health{Score: score, Count: count}}
}

// goodBreakers are valid, of all edges against each other.
func goodBreakers() []api.Breaker {
	var l []api.Breaker
	for _, h := range goodHealths() {
		for _, n := range goodFails() {
			l = append(l, shut(n, h.Score, h.Count), half(n, h.Score, h.Count))
			for _, until := range goodUntils() {
				l = append(l, open(n, until, h.Score, h.Count))
			}
		}
	}
	return l
}

// wrongBreakers are not valid, each by one thing alone, and the last ones by several.
func wrongBreakers() []api.Breaker {
	var l []api.Breaker
	for _, b := range []api.Breaker{shut(1, 0.5, 2), open(1, 7, 0.5, 2), half(1, 0.5, 2), New()} {
		for _, x := range extremes() {
			l = append(l, with(b, x, b.Fails, b.Until), with(b, b.State, x, b.Until), with(b, b.State, b.Fails, x))
		}
		l = append(l,
			with(b, -1, b.Fails, 0), with(b, 3, b.Fails, 0), with(b, 3, b.Fails, 7),
			with(b, b.State, -1, b.Until), with(b, b.State, topFails+1, b.Until),
			with(b, b.State, b.Fails, -1), with(b, b.State, b.Fails, topUntil+1))
		for _, h := range wrongHealths() {
			sick := b
			sick.Health = h
			l = append(l, sick)
		}
	}
	for _, until := range goodUntils()[1:] {
		l = append(l, with(shut(1, 0.5, 2), api.Shut, 1, until), with(half(1, 0.5, 2), api.Half, 1, until))
	}
	return append(l,
		api.Breaker{},
		api.Breaker{State: 3, Fails: -1, Until: -1},
		api.Breaker{State: math.MinInt, Fails: math.MaxInt, Until: math.MinInt, Health: api.Health{Score: 2, Count: -1}})
}

func with(b api.Breaker, state, fails, until int) api.Breaker {
	b.State, b.Fails, b.Until = state, fails, until
	return b
}

func config(fails, pause int, floor float64) api.Config {
	return api.Config{Fails: fails, Pause: pause, Floor: floor}
}

// junk is a config of which all but Fails, Pause and Floor is not valid.
func junk(c api.Config) api.Config {
	c.Tenants = []api.Tenant{
		{Name: strings.Repeat("x", 1000), Bytes: -1, Count: math.MinInt, Quantum: -7, Rate: api.Bucket{Level: 5, Cap: -5}},
		{}, {}, {}, {}, {Lmtp: true},
	}
	c.Host = "\x00 no host"
	c.Grey = math.MinInt
	c.Expire = math.MaxInt
	c.Backoff = []int{-1, math.MaxInt, math.MinInt}
	return c
}

// equal holds all fields against each other, a score bit by bit, but takes all NaNs as one.
func equal(a, b api.Breaker) bool {
	x, y := a.Health.Score, b.Health.Score
	a.Health.Score, b.Health.Score = 0, 0
	return a == b && (x != x && y != y || math.Float64bits(x) == math.Float64bits(y))
}

func wantHealthy(h api.Health) bool {
	if h.Count == 0 {
		return h.Score != h.Score
	}
	return h.Count >= 1 && h.Count <= topCount && h.Score >= 0 && h.Score <= 1 && !math.Signbit(h.Score)
}

// wantValid tells by the words of the chapter whether b is valid.
func wantValid(b api.Breaker) bool {
	switch b.State {
	case api.Shut, api.Half:
		if b.Until != 0 {
			return false
		}
	case api.Open:
		if b.Until < 0 || b.Until > topUntil {
			return false
		}
	default:
		return false
	}
	return b.Fails >= 0 && b.Fails <= topFails && wantHealthy(b.Health)
}

func wantMay(b api.Breaker, now int) (bool, api.Errno) {
	if !wantValid(b) || now < 0 || now > topTick {
		return false, api.ErrForm
	}
	switch b.State {
	case api.Shut:
		return true, api.OK
	case api.Open:
		return now >= b.Until, api.OK
	}
	return false, api.OK
}

func wantBegin(b api.Breaker, now int) (api.Breaker, api.Errno) {
	may, e := wantMay(b, now)
	if e != api.OK {
		return api.Breaker{}, e
	}
	if !may {
		return api.Breaker{}, api.ErrLater
	}
	if b.State == api.Open {
		return half(b.Fails, b.Health.Score, b.Health.Count), api.OK
	}
	return b, api.OK
}

// wantNote is the observation 1 or 0 of the weight 0.25, by the words of chapter 7.
func wantNote(h api.Health, ok bool) api.Health {
	x := 0.0
	if ok {
		x = 1
	}
	if h.Count == 0 {
		return api.Health{Score: x, Count: 1}
	}
	d := float64(x - h.Score)
	p := float64(0.25 * d)
	return api.Health{Score: float64(h.Score + p), Count: min(h.Count+1, topCount)}
}

func wantEnd(b api.Breaker, ok bool, now int, c api.Config) (api.Breaker, api.Errno) {
	if !wantValid(b) || now < 0 || now > topTick || c.Fails < 1 || c.Fails > topFails || c.Pause < 0 || c.Pause > topTick {
		return api.Breaker{}, api.ErrForm
	}
	next := b
	next.Health = wantNote(b.Health, ok)
	if ok {
		next.Fails = 0
	} else if b.Fails < topFails {
		next.Fails = b.Fails + 1
	}
	opens := false
	switch b.State {
	case api.Half:
		if ok {
			return shut(0, math.NaN(), 0), api.OK
		}
		opens = true
	case api.Shut:
		opens = next.Fails >= c.Fails || c.Floor == c.Floor && next.Health.Score < c.Floor
	}
	if opens {
		next.State, next.Until = api.Open, now+c.Pause
	}
	return next, api.OK
}

func judgeCheck(t *testing.T, b api.Breaker) {
	t.Helper()
	want := api.ErrForm
	if wantValid(b) {
		want = api.OK
	}
	if got := Check(b); got != want {
		t.Errorf("Check(%+v): %v, want %v", b, got, want)
	}
}

func judgeMay(t *testing.T, b api.Breaker, now int) {
	t.Helper()
	want, wantE := wantMay(b, now)
	if got, e := May(b, now); got != want || e != wantE {
		t.Errorf("May(%+v, %d): %v, %v, want %v, %v", b, now, got, e, want, wantE)
	}
}

// fits tells whether Begin or End answered what is wanted, and whether that is valid, or the zero value beside an error.
func fits(got api.Breaker, e api.Errno, want api.Breaker, wantE api.Errno) bool {
	if !equal(got, want) || e != wantE {
		return false
	}
	if e != api.OK {
		return got == api.Breaker{}
	}
	return Check(got) == api.OK
}

func judgeBegin(t *testing.T, b api.Breaker, now int) api.Breaker {
	t.Helper()
	want, wantE := wantBegin(b, now)
	got, e := Begin(b, now)
	if !fits(got, e, want, wantE) {
		t.Errorf("Begin(%+v, %d): %+v, %v, want %+v, %v", b, now, got, e, want, wantE)
	}
	return got
}

func judgeEnd(t *testing.T, b api.Breaker, ok bool, now int, c api.Config) api.Breaker {
	t.Helper()
	want, wantE := wantEnd(b, ok, now, c)
	got, e := End(b, ok, now, c)
	if !fits(got, e, want, wantE) {
		t.Errorf("End(%+v, %v, %d, Fails %d, Pause %d, Floor %v): %+v, %v, want %+v, %v", b, ok, now, c.Fails, c.Pause, c.Floor, got, e, want, wantE)
	}
	return got
}

// refused asks that End answers ErrForm and the zero value.
func refused(t *testing.T, b api.Breaker, ok bool, now int, c api.Config) {
	t.Helper()
	if got, e := End(b, ok, now, c); got != (api.Breaker{}) || e != api.ErrForm {
		t.Errorf("End(%+v, %v, %d, Fails %d, Pause %d, Floor %v): %+v, %v", b, ok, now, c.Fails, c.Pause, c.Floor, got, e)
	}
}

// P10.1: cases of Check written out.
func TestCheck(t *testing.T) {
	nan, fine, wrong := math.NaN(), api.OK, api.ErrForm
	for _, c := range []struct {
		name string
		b    api.Breaker
		want api.Errno
	}{
		{"the zero value, whose health is none of its form", api.Breaker{}, wrong},
		{"shut", shut(0, nan, 0), fine},
		{"open, until 0", open(0, 0, nan, 0), fine},
		{"half", half(0, nan, 0), fine},
		{"a state below", with(shut(0, nan, 0), -1, 0, 0), wrong},
		{"a state above", with(shut(0, nan, 0), 3, 0, 0), wrong},
		{"a state above, until 1", with(shut(0, nan, 0), 3, 0, 1), wrong},
		{"the greatest state", with(shut(0, nan, 0), math.MaxInt, 0, 0), wrong},
		{"the least state", with(shut(0, nan, 0), math.MinInt, 0, 0), wrong},
		{"shut, 2^20 failures", shut(1<<20, 0, 9), fine},
		{"open, 2^20 failures", open(1<<20, 3, 0, 9), fine},
		{"half, 2^20 failures", half(1<<20, 0, 9), fine},
		{"2^20 - 1 failures", shut(1<<20-1, 0, 9), fine},
		{"2^20 + 1 failures", shut(1<<20+1, 0, 9), wrong},
		{"-1 failures", shut(-1, 0, 9), wrong},
		{"the most failures", half(math.MaxInt, 0, 9), wrong},
		{"the least failures", half(math.MinInt, 0, 9), wrong},
		{"shut, until 1", with(shut(0, nan, 0), api.Shut, 0, 1), wrong},
		{"shut, until -1", with(shut(0, nan, 0), api.Shut, 0, -1), wrong},
		{"half, until 1", with(half(0, nan, 0), api.Half, 0, 1), wrong},
		{"half, until -1", with(half(0, nan, 0), api.Half, 0, -1), wrong},
		{"half, until 2 * MaxTick", with(half(0, nan, 0), api.Half, 0, 2*api.MaxTick), wrong},
		{"open, until 1", open(0, 1, nan, 0), fine},
		{"open, until -1", open(0, -1, nan, 0), wrong},
		{"open, until MaxTick + 1", open(0, api.MaxTick+1, nan, 0), fine},
		{"open, until 2 * MaxTick - 1", open(0, 2*api.MaxTick-1, nan, 0), fine},
		{"open, until 2 * MaxTick", open(0, 2*api.MaxTick, nan, 0), fine},
		{"open, until 2 * MaxTick + 1", open(0, 2*api.MaxTick+1, nan, 0), wrong},
		{"open, the greatest until", open(0, math.MaxInt, nan, 0), wrong},
		{"open, the least until", open(0, math.MinInt, nan, 0), wrong},
		{"a health of -0", shut(0, minusZero(), 1), wrong},
		{"a health of +0", shut(0, 0, 1), fine},
		{"a health of 1", open(0, 5, 1, 1<<40), fine},
		{"a health above 1", open(0, 5, above1, 1), wrong},
		{"a health below 0", half(0, -least, 1), wrong},
		{"a score that is none, with a count", half(0, nan, 1), wrong},
		{"a score without a count", half(0, 0.5, 0), wrong},
		{"a count too great", half(0, 0.5, 1<<40+1), wrong},
	} {
		if got := Check(c.b); got != c.want {
			t.Errorf("%s: %v, want %v", c.name, got, c.want)
		}
		judgeCheck(t, c.b)
	}
}

// P10.1: every state, number of failures and until, with every health.
func TestCheckAllEdges(t *testing.T) {
	for _, h := range append(goodHealths(), wrongHealths()...) {
		for _, state := range states() {
			for _, n := range fails() {
				for _, until := range untils() {
					judgeCheck(t, api.Breaker{State: state, Fails: n, Until: until, Health: h})
				}
			}
		}
	}
}

// P10.1: the lists of these tests are what they are meant to be.
func TestLists(t *testing.T) {
	for _, b := range goodBreakers() {
		if e := Check(b); e != api.OK {
			t.Errorf("Check(%+v): %v", b, e)
		}
	}
	for _, b := range wrongBreakers() {
		if e := Check(b); e != api.ErrForm {
			t.Errorf("Check(%+v): %v", b, e)
		}
	}
}

// P10.1: New is valid, shut, without failures and without a health, and always the same.
func TestNew(t *testing.T) {
	for range 2 {
		b := New()
		if b.State != api.Shut || b.Fails != 0 || b.Until != 0 || !math.IsNaN(b.Health.Score) || b.Health.Count != 0 || Check(b) != api.OK {
			t.Errorf("%+v, %v", b, Check(b))
		}
	}
}

// P10.1: cases of May and Begin written out.
func TestMayAndBegin(t *testing.T) {
	nan, fine, later, wrong := math.NaN(), api.OK, api.ErrLater, api.ErrForm
	for _, c := range []struct {
		name string
		b    api.Breaker
		now  int
		want api.Breaker // of Begin
		e    api.Errno   // of Begin
	}{
		{"new, at the first tick", New(), 0, New(), fine},
		{"new, at the last tick", New(), api.MaxTick, New(), fine},
		{"new, ahead of the first tick", New(), -1, api.Breaker{}, wrong},
		{"new, after the last tick", New(), api.MaxTick + 1, api.Breaker{}, wrong},
		{"shut", shut(7, 0.5, 3), 9, shut(7, 0.5, 3), fine},
		{"shut, the most failures", shut(1<<20, 0, 1<<40), 9, shut(1<<20, 0, 1<<40), fine},
		{"open, ahead of its tick", open(7, 18, 0.5, 3), 17, api.Breaker{}, later},
		{"open, at its tick", open(7, 18, 0.5, 3), 18, half(7, 0.5, 3), fine},
		{"open, after its tick", open(7, 18, 0.5, 3), 19, half(7, 0.5, 3), fine},
		{"open, at the first tick", open(7, 18, 0.5, 3), 0, api.Breaker{}, later},
		{"open, at the last tick", open(7, 18, 0.5, 3), api.MaxTick, half(7, 0.5, 3), fine},
		{"open, ahead of the first tick", open(7, 18, 0.5, 3), -1, api.Breaker{}, wrong},
		{"open, after the last tick", open(7, 18, 0.5, 3), api.MaxTick + 1, api.Breaker{}, wrong},
		{"open until 0, at the first tick", open(1, 0, nan, 0), 0, half(1, nan, 0), fine},
		{"open until 1, at the first tick", open(1, 1, nan, 0), 0, api.Breaker{}, later},
		{"open until the last tick, at it", open(1, api.MaxTick, 0, 1), api.MaxTick, half(1, 0, 1), fine},
		{"open until the last tick, one below", open(1, api.MaxTick, 0, 1), api.MaxTick - 1, api.Breaker{}, later},
		{"open beyond the last tick, at it", open(1, api.MaxTick+1, 0, 1), api.MaxTick, api.Breaker{}, later},
		{"open beyond the last tick, one above", open(1, api.MaxTick+1, 0, 1), api.MaxTick + 1, api.Breaker{}, wrong},
		{"open until 2 * MaxTick", open(1, 2*api.MaxTick, 0, 1), api.MaxTick, api.Breaker{}, later},
		{"half", half(7, 0.5, 3), 9, api.Breaker{}, later},
		{"half, at the first tick", half(0, nan, 0), 0, api.Breaker{}, later},
		{"half, at the last tick", half(7, 0.5, 3), api.MaxTick, api.Breaker{}, later},
		{"half, ahead of the first tick", half(7, 0.5, 3), -1, api.Breaker{}, wrong},
		{"half, after the last tick", half(7, 0.5, 3), api.MaxTick + 1, api.Breaker{}, wrong},
		{"not valid, though half", half(-1, 0.5, 3), 9, api.Breaker{}, wrong},
		{"not valid, though open for long", open(1, 2*api.MaxTick+1, 0, 1), 9, api.Breaker{}, wrong},
		{"not valid, at a wrong tick", half(-1, 0.5, 3), -1, api.Breaker{}, wrong},
		{"the zero value", api.Breaker{}, 9, api.Breaker{}, wrong},
	} {
		may, e := May(c.b, c.now)
		if may != (c.e == fine) || (e == wrong) != (c.e == wrong) || e != fine && e != wrong {
			t.Errorf("%s: May: %v, %v", c.name, may, e)
		}
		got, e := Begin(c.b, c.now)
		if !fits(got, e, c.want, c.e) {
			t.Errorf("%s: Begin: %+v, %v, want %+v, %v", c.name, got, e, c.want, c.e)
		}
		judgeMay(t, c.b, c.now)
		judgeBegin(t, c.b, c.now)
	}
}

// P10.1: all valid breakers at all ticks, and those around their own.
func TestMayAndBeginAllEdges(t *testing.T) {
	for _, b := range goodBreakers() {
		around := []int{b.Until - 2, b.Until - 1, b.Until, b.Until + 1, b.Until + 2}
		for _, now := range slices.Concat(ticks(), wrongTicks(), around) {
			judgeMay(t, b, now)
			judgeBegin(t, b, now)
		}
	}
}

// P10.1: what is wrong is refused ahead of what comes too early, with zero values beside the error.
func TestMayAndBeginWrong(t *testing.T) {
	for _, b := range wrongBreakers() {
		for _, now := range append(ticks(), wrongTicks()...) {
			may, e := May(b, now)
			next, f := Begin(b, now)
			if may || e != api.ErrForm || next != (api.Breaker{}) || f != api.ErrForm {
				t.Errorf("%+v, %d: May: %v, %v, Begin: %+v, %v", b, now, may, e, next, f)
			}
		}
	}
	for _, b := range goodBreakers() {
		for _, now := range wrongTicks() {
			may, e := May(b, now)
			next, f := Begin(b, now)
			if may || e != api.ErrForm || next != (api.Breaker{}) || f != api.ErrForm {
				t.Errorf("%+v, %d: May: %v, %v, Begin: %+v, %v", b, now, may, e, next, f)
			}
		}
	}
}

// P10.1: with Begin, an open breaker lets one try begin, and a shut one any number.
func TestBeginTwice(t *testing.T) {
	b := judgeBegin(t, open(3, 5, 0.25, 4), 5)
	for _, now := range ticks() {
		if _, e := Begin(b, now); e != api.ErrLater {
			t.Errorf("half, at %d: %v", now, e)
		}
	}
	b = shut(3, 0.25, 4)
	for range 5 {
		if b = judgeBegin(t, b, 5); b != shut(3, 0.25, 4) {
			t.Errorf("shut: %+v", b)
		}
	}
}

// P10.2: cases of End written out, with the breaker that comes of each.
func TestEnd(t *testing.T) {
	nan, inf := math.NaN(), math.Inf(1)
	for _, c := range []struct {
		name string
		b    api.Breaker
		ok   bool
		now  int
		c    api.Config
		want api.Breaker
	}{
		{"new, success", New(), true, 5, config(2, 10, nan), shut(0, 1, 1)},
		{"new, failure", New(), false, 5, config(2, 10, nan), shut(1, 0, 1)},
		{"new, failure, and one is enough", New(), false, 5, config(1, 10, nan), open(1, 15, 0, 1)},
		{"new, success, and one failure is enough", New(), true, 5, config(1, 10, nan), shut(0, 1, 1)},
		{"shut, success takes the failures off", shut(3, 0.5, 7), true, 5, config(9, 10, nan), shut(0, 0.625, 8)},
		{"shut, one below Fails", shut(7, 0.5, 7), false, 5, config(9, 10, nan), shut(8, 0.375, 8)},
		{"shut, just Fails", shut(8, 0.5, 7), false, 5, config(9, 10, nan), open(9, 15, 0.375, 8)},
		{"shut, one above Fails", shut(9, 0.5, 7), false, 5, config(9, 10, nan), open(10, 15, 0.375, 8)},
		{"shut, far above Fails, success", shut(99, 0.5, 7), true, 5, config(1, 10, nan), shut(0, 0.625, 8)},
		{"shut, 2^20 failures just reached", shut(1<<20-1, 0.5, 7), false, 5, config(1<<20, 10, nan), open(1<<20, 15, 0.375, 8)},
		{"shut, one below 2^20 failures", shut(1<<20-2, 0.5, 7), false, 5, config(1<<20, 10, nan), shut(1<<20-1, 0.375, 8)},
		{"shut, one more than 2^20 failures", shut(1<<20, 0.5, 7), false, 5, config(1<<20, 10, nan), open(1<<20, 15, 0.375, 8)},
		{"shut, 2^20 failures and a success", shut(1<<20, 0.5, 7), true, 5, config(1<<20, 10, nan), shut(0, 0.625, 8)},
		{"shut, failure, below the floor", shut(0, 0.5, 7), false, 5, config(9, 10, 0.5), open(1, 15, 0.375, 8)},
		{"shut, failure, at the floor", shut(0, 0.5, 7), false, 5, config(9, 10, 0.375), shut(1, 0.375, 8)},
		{"shut, failure, just below the floor", shut(0, 0.5, 7), false, 5, config(9, 10, math.Nextafter(0.375, 1)), open(1, 15, 0.375, 8)},
		{"shut, failure, just above the floor", shut(0, 0.5, 7), false, 5, config(9, 10, math.Nextafter(0.375, 0)), shut(1, 0.375, 8)},
		{"shut, success, still below the floor", shut(4, 0.5, 7), true, 5, config(9, 10, 0.7), open(0, 15, 0.625, 8)},
		{"shut, success, at the floor", shut(4, 0.5, 7), true, 5, config(9, 10, 0.625), shut(0, 0.625, 8)},
		{"shut, success, above a floor that it was below", shut(4, 0.5, 7), true, 5, config(9, 10, 0.6), shut(0, 0.625, 8)},
		{"shut, below the floor, and failures enough", shut(8, 0.5, 7), false, 5, config(9, 10, 0.5), open(9, 15, 0.375, 8)},
		{"shut, no floor is NaN", shut(0, 0, 7), false, 5, config(9, 10, nan), shut(1, 0, 8)},
		{"shut, the floor +Inf", shut(0, 1, 7), true, 5, config(9, 10, inf), open(0, 15, 1, 8)},
		{"shut, the floor -Inf", shut(0, 0, 7), false, 5, config(9, 10, -inf), shut(1, 0, 8)},
		{"shut, the floor 0", shut(0, 0, 7), false, 5, config(9, 10, 0), shut(1, 0, 8)},
		{"shut, the floor -0", shut(0, 0, 7), false, 5, config(9, 10, minusZero()), shut(1, 0, 8)},
		{"shut, the floor just above 0", shut(0, 0, 7), false, 5, config(9, 10, least), open(1, 15, 0, 8)},
		{"shut, the floor 1, reached", shut(0, 1, 7), true, 5, config(9, 10, 1), shut(0, 1, 8)},
		{"shut, the floor 1, not reached", shut(0, 0.5, 7), true, 5, config(9, 10, 1), open(0, 15, 0.625, 8)},
		{"shut, the floor just above 1", shut(0, 1, 7), true, 5, config(9, 10, above1), open(0, 15, 1, 8)},
		{"new, the floor 1, success", New(), true, 5, config(9, 10, 1), shut(0, 1, 1)},
		{"new, the floor +Inf, success", New(), true, 5, config(9, 10, inf), open(0, 15, 1, 1)},
		{"open, success", open(4, 18, 0.5, 7), true, 9, config(2, 10, nan), open(0, 18, 0.625, 8)},
		{"open, failure", open(4, 18, 0.5, 7), false, 9, config(2, 10, nan), open(5, 18, 0.375, 8)},
		{"open, success, after its tick", open(4, 18, 0.5, 7), true, 30, config(2, 10, nan), open(0, 18, 0.625, 8)},
		{"open, failure, after its tick", open(4, 18, 0.5, 7), false, 30, config(2, 10, nan), open(5, 18, 0.375, 8)},
		{"open, failure, below the floor", open(4, 18, 0.5, 7), false, 9, config(99, 10, inf), open(5, 18, 0.375, 8)},
		{"open, failure, until 0", open(0, 0, nan, 0), false, 9, config(1, 10, nan), open(1, 0, 0, 1)},
		{"open, failure, 2^20 failures", open(1<<20, 18, 0.5, 7), false, 9, config(2, 10, nan), open(1<<20, 18, 0.375, 8)},
		{"open, failure, 2^20 just reached", open(1<<20-1, 18, 0.5, 7), false, 9, config(2, 10, nan), open(1<<20, 18, 0.375, 8)},
		{"half, success", half(4, 0.5, 7), true, 20, config(2, 10, nan), shut(0, nan, 0)},
		{"half, success, below the floor", half(4, 0, 7), true, 20, config(2, 10, inf), shut(0, nan, 0)},
		{"half, success, without a health", half(4, nan, 0), true, 20, config(2, 10, 1), shut(0, nan, 0)},
		{"half, success, the most failures", half(1<<20, 0, 1<<40), true, 20, config(1, 10, nan), shut(0, nan, 0)},
		{"half, failure", half(4, 0.5, 7), false, 20, config(2, 10, nan), open(5, 30, 0.375, 8)},
		{"half, failure, fewer than Fails", half(0, 0.5, 7), false, 20, config(99, 10, nan), open(1, 30, 0.375, 8)},
		{"half, failure, above the floor", half(0, 1, 7), false, 20, config(99, 10, 0), open(1, 30, 0.75, 8)},
		{"half, failure, 2^20 failures", half(1<<20, 0.5, 7), false, 20, config(2, 10, nan), open(1<<20, 30, 0.375, 8)},
		{"half, failure, without a health", half(4, nan, 0), false, 20, config(2, 10, nan), open(5, 30, 0, 1)},
		{"no pause", shut(0, 0.5, 7), false, 5, config(1, 0, nan), open(1, 5, 0.375, 8)},
		{"no pause, at the first tick", shut(0, 0.5, 7), false, 0, config(1, 0, nan), open(1, 0, 0.375, 8)},
		{"no pause, at the last tick", half(0, 0.5, 7), false, api.MaxTick, config(1, 0, nan), open(1, api.MaxTick, 0.375, 8)},
		{"the longest pause, at the first tick", half(0, 0.5, 7), false, 0, config(1, api.MaxTick, nan), open(1, api.MaxTick, 0.375, 8)},
		{"the longest pause, at the last tick", shut(0, 0.5, 7), false, api.MaxTick, config(1, api.MaxTick, nan), open(1, 2*api.MaxTick, 0.375, 8)},
		{"the longest pause, half, at the last tick", half(0, 0.5, 7), false, api.MaxTick, config(1, api.MaxTick, nan), open(1, 2*api.MaxTick, 0.375, 8)},
		{"the greatest count", shut(0, 0.5, 1<<40), true, 5, config(2, 10, nan), shut(0, 0.625, 1<<40)},
		{"the count below it", shut(0, 0.5, 1<<40-1), true, 5, config(2, 10, nan), shut(0, 0.625, 1<<40)},
	} {
		got, e := End(c.b, c.ok, c.now, c.c)
		if !fits(got, e, c.want, api.OK) {
			t.Errorf("%s: %+v, %v, want %+v", c.name, got, e, c.want)
		}
		judgeEnd(t, c.b, c.ok, c.now, c.c)
		judgeEnd(t, c.b, c.ok, c.now, junk(c.c))
	}
}

// P10.2: the example of the chapter.
func TestExample(t *testing.T) {
	c := config(2, 10, math.NaN())
	b := judgeEnd(t, New(), true, 6, c)
	b = judgeEnd(t, b, false, 7, c)
	if b.State != api.Shut || b.Fails != 1 {
		t.Errorf("after one failure: %+v", b)
	}
	b = judgeEnd(t, b, false, 8, c)
	if b.State != api.Open || b.Until != 18 {
		t.Errorf("after two: %+v", b)
	}
	if may, e := May(b, 17); may || e != api.OK {
		t.Errorf("at 17: %v, %v", may, e)
	}
	if may, e := May(b, 18); !may || e != api.OK {
		t.Errorf("at 18: %v, %v", may, e)
	}
}

// floors are the edges of a floor for b, its own score, and the scores after a try among them.
func floors(b api.Breaker) []float64 {
	l := append(nans(), math.Inf(-1), -1, minusZero(), 0, least, 0.25, 1, math.Inf(1), math.MaxFloat64)
	for _, s := range []float64{b.Health.Score, wantNote(b.Health, true).Score, wantNote(b.Health, false).Score} {
		l = append(l, s, math.Nextafter(s, -1), math.Nextafter(s, 2))
	}
	return l
}

// P10.2: all valid breakers with all edges of now, Fails, Pause and Floor against each other.
func TestEndAllEdges(t *testing.T) {
	for _, b := range goodBreakers() {
		for _, floor := range floors(b) {
			for _, limit := range []int{1, 2, topFails - 1, topFails, max(1, b.Fails), min(topFails, b.Fails+1), min(topFails, b.Fails+2)} {
				for _, now := range []int{0, 1, topTick - 1, topTick} {
					for _, pause := range []int{0, 1, topTick - 1, topTick} {
						judgeEnd(t, b, true, now, config(limit, pause, floor))
						judgeEnd(t, b, false, now, config(limit, pause, floor))
					}
				}
			}
		}
	}
}

func wrongLimits() []int {
	return append([]int{-1, 0, topFails + 1, 2 * topFails, 1 << 32}, extremes()...)
}

// P10.2: a breaker, a tick, a Fails and a Pause that are refused, each alone.
func TestEndWrong(t *testing.T) {
	c := config(1, 10, math.NaN())
	for _, ok := range []bool{false, true} {
		for _, b := range wrongBreakers() {
			for _, now := range ticks() {
				refused(t, b, ok, now, c)
			}
		}
		for _, b := range goodBreakers() {
			for _, now := range wrongTicks() {
				refused(t, b, ok, now, c)
			}
			for _, limit := range wrongLimits() {
				refused(t, b, ok, 5, config(limit, 10, 0.5))
			}
			for _, pause := range wrongTicks() {
				refused(t, b, ok, 5, config(1, pause, 0.5))
			}
			refused(t, b, ok, 5, api.Config{})
		}
	}
}

// P10.2: several of them together, with every kind of floor.
func TestEndWrongTogether(t *testing.T) {
	breakers := []api.Breaker{New(), half(3, 0.5, 2), open(3, 9, 0.5, 2), {}, half(-1, 0.5, 2), open(1, topUntil+1, 2, -1)}
	for _, b := range breakers {
		for _, now := range append(ticks(), wrongTicks()...) {
			for _, limit := range append([]int{1, 2, topFails}, wrongLimits()...) {
				for _, pause := range append(ticks(), wrongTicks()...) {
					for _, floor := range []float64{math.NaN(), 0.5, math.Inf(1)} {
						judgeEnd(t, b, true, now, config(limit, pause, floor))
						judgeEnd(t, b, false, now, config(limit, pause, floor))
					}
				}
			}
		}
	}
}

// P10.2: of the config only Fails, Pause and Floor count, and it stays as it was.
func TestEndConfig(t *testing.T) {
	for _, b := range goodBreakers() {
		for _, ok := range []bool{false, true} {
			for _, limit := range []int{1, 3, topFails} {
				c := config(limit, 10, 0.5)
				plain, e := End(b, ok, 5, c)
				odd, f := End(b, ok, 5, junk(c))
				if !equal(plain, odd) || e != api.OK || f != api.OK {
					t.Errorf("%+v, %v: %+v, %v, but %+v, %v", b, ok, plain, e, odd, f)
				}
			}
		}
	}
	c := junk(config(1, 10, 0.5))
	if _, e := End(New(), false, 5, c); e != api.OK {
		t.Errorf("%v", e)
	}
	if !reflect.DeepEqual(c, junk(config(1, 10, 0.5))) {
		t.Errorf("the config became %+v", c)
	}
	refused(t, New(), false, 5, junk(config(0, 10, 0.5)))
	refused(t, New(), false, 5, junk(config(1, -1, 0.5)))
}

// P10.2: the health of a try is that of health.Note with the weight 0.25.
func TestEndHealth(t *testing.T) {
	for _, b := range goodBreakers() {
		for _, ok := range []bool{false, true} {
			if b.State == api.Half && ok {
				continue
			}
			x := 0.0
			if ok {
				x = 1
			}
			want, _ := health.Note(b.Health, x, 0.25)
			if got := judgeEnd(t, b, ok, 5, config(1, 1, 0.5)); got.Health != want {
				t.Errorf("%+v, %v: %+v, want the health %+v", b, ok, got, want)
			}
		}
	}
}

// judgeClosed asks that no try begins from the tick now on for so many ticks, and that one does then.
func judgeClosed(t *testing.T, b api.Breaker, now, pause int) {
	t.Helper()
	for _, d := range []int{0, 1, 2, pause / 2, pause - 2, pause - 1, pause, pause + 1} {
		if d < 0 || now+d > topTick {
			continue
		}
		may, e := May(b, now+d)
		_, f := Begin(b, now+d)
		if may != (d >= pause) || e != api.OK || (f == api.OK) != may || f != api.OK && f != api.ErrLater {
			t.Errorf("%+v, %d ticks after %d, pause %d: %v, %v, %v", b, d, now, pause, may, e, f)
		}
	}
}

// P10.3: after so many failures, and not before, no try begins for Pause ticks.
func TestPauses(t *testing.T) {
	for _, limit := range []int{1, 2, 3, 10, 1000} {
		for _, pause := range []int{0, 1, 2, 10, 1 << 30, topTick} {
			c, b := config(limit, pause, math.NaN()), judgeEnd(t, New(), true, 6, config(limit, pause, math.NaN()))
			for i := range limit {
				if b.State != api.Shut || b.Fails != i {
					t.Fatalf("Fails %d, after %d: %+v", limit, i, b)
				}
				b = judgeEnd(t, judgeBegin(t, b, 7+i), false, 7+i, c)
			}
			now := 6 + limit
			judgeClosed(t, b, now, pause)
			// Tries that began ahead of it may still end, and neither shut it nor make the pause longer.
			for i, ok := range []bool{false, true, true, false, false} {
				b = judgeEnd(t, b, ok, now+i, c)
				judgeClosed(t, b, now, pause)
			}
		}
	}
}

// P10.3: the greatest number of failures, one by one.
func TestMostFailures(t *testing.T) {
	b, c := New(), config(topFails, 10, math.NaN())
	for i := range topFails {
		if b.State != api.Shut || b.Fails != i {
			t.Fatalf("after %d: %+v", i, b)
		}
		b, _ = End(b, false, i, c)
	}
	judgeClosed(t, b, topFails-1, 10)
	for range 3 {
		if b = judgeEnd(t, b, false, topFails, c); b.Fails != topFails || b.State != api.Open || b.Until != topFails+9 {
			t.Errorf("%+v", b)
		}
	}
}

// P10.3: one success in the state Half closes any breaker, and leaves nothing of what was before.
func TestHalfCloses(t *testing.T) {
	for _, b := range goodBreakers() {
		if b.State != api.Half {
			continue
		}
		for _, now := range ticks() {
			for _, floor := range floors(b) {
				got := judgeEnd(t, b, true, now, config(1, 10, floor))
				if !equal(got, New()) {
					t.Errorf("%+v: %+v", b, got)
				}
				for _, later := range ticks() {
					if may, e := May(got, later); !may || e != api.OK {
						t.Errorf("%+v, at %d: %v, %v", got, later, may, e)
					}
				}
			}
		}
	}
}

// P10.3: a failure in the state Half opens it again for Pause ticks, as often as it comes.
func TestHalfFails(t *testing.T) {
	c := config(50, 10, math.NaN())
	b, now := open(3, 18, 0.5, 4), 18
	for i := range 60 {
		b = judgeEnd(t, judgeBegin(t, b, now), false, now+3, c)
		if b.Fails != 4+i || b.State != api.Open {
			t.Fatalf("%d: %+v", i, b)
		}
		judgeClosed(t, b, now+3, 10)
		now += 13
	}
	if b = judgeEnd(t, judgeBegin(t, b, now), true, now+3, c); !equal(b, New()) {
		t.Errorf("%+v", b)
	}
}

// P10.1 to P10.3: long runs of one breaker, whose failures and pauses are counted beside it.
func TestRandom(t *testing.T) {
	r := rand.New(rand.NewSource(10))
	for range 200 {
		b, now, inRow := New(), r.Intn(1000), 0
		c := config(1+r.Intn(6), r.Intn(40), []float64{math.NaN(), 0, 0.3, 0.6, 1, math.Inf(1)}[r.Intn(6)])
		chance := r.Float64()
		for range 500 {
			now += r.Intn(8)
			judgeMay(t, b, now)
			if began := judgeBegin(t, b, now); began != (api.Breaker{}) {
				b = began
			} else if r.Intn(3) > 0 {
				continue
			}
			ok, old := r.Float64() < chance, b.State
			if inRow++; ok {
				inRow = 0
			}
			b = judgeEnd(t, b, ok, now, c)
			if b.Fails != inRow {
				t.Fatalf("%+v, after %d failures in a row", b, inRow)
			}
			if old != api.Open && inRow >= c.Fails {
				judgeClosed(t, b, now, c.Pause)
			}
			if old == api.Half && ok && b.State != api.Shut {
				t.Errorf("%+v, after a success", b)
			}
		}
		if t.Failed() {
			return
		}
	}
}

// R1: equal calls give equal results.
func TestEqualCalls(t *testing.T) {
	for _, b := range append(goodBreakers(), wrongBreakers()...) {
		c := config(2, 10, 0.5)
		first, e := End(b, false, 5, c)
		judgeEnd(t, b, true, 6, c)
		second, f := End(b, false, 5, c)
		if !equal(first, second) || e != f {
			t.Errorf("%+v: %+v, %v, then %+v, %v", b, first, e, second, f)
		}
	}
}
