package bucket

import (
	"math"
	"math/big"
	"math/rand"
	"testing"

	"pouch/api"
)

const (
	top     = 1 << 20 // MaxTokens, as the limits say it
	topTick = 1 << 40 // MaxTick
)

// fields are numbers for each field of a bucket: its edges, those beside them, and the greatest and the least.
func fields() []int {
	return []int{math.MinInt, -1, 0, 1, 2, top - 1, top, top + 1, math.MaxInt}
}

// edges has all buckets of those numbers, valid or not.
func edges() []api.Bucket {
	var l []api.Bucket
	for _, level := range fields() {
		for _, most := range fields() {
			for _, fill := range fields() {
				for _, every := range fields() {
					for _, due := range fields() {
						l = append(l, api.Bucket{Level: level, Cap: most, Fill: fill, Every: every, Due: due})
					}
				}
			}
		}
	}
	return l
}

// validEdges are the valid ones of edges, and those whose Due is just below their Every.
func validEdges() []api.Bucket {
	var l []api.Bucket
	for _, b := range edges() {
		if wantValid(b) {
			l = append(l, b)
			if b.Due == 0 && b.Every == top-1 {
				b.Due = b.Every - 1
				l = append(l, b)
			}
		}
	}
	return l
}

// wrongBuckets are not valid, each by one field alone.
func wrongBuckets() []api.Bucket {
	good := api.Bucket{Level: 1, Cap: 2, Fill: 1, Every: 3, Due: 1}
	var l []api.Bucket
	for _, n := range append(fields(), 3) {
		level, most, fill, every, due := good, good, good, good, good
		level.Level, most.Cap, fill.Fill, every.Every, due.Due = n, n, n, n, n
		for _, b := range []api.Bucket{level, most, fill, every, due} {
			if !wantValid(b) {
				l = append(l, b)
			}
		}
	}
	return append(l, api.Bucket{})
}

// tokenCounts are numbers of tokens to take, or to wait for.
func tokenCounts() []int { return []int{0, 1, 2, 3, top / 2, top - 1, top} }

func wrongTokenCounts() []int {
	return []int{math.MinInt, math.MinInt + 1, -topTick, -top, -1, top + 1, topTick, math.MaxInt - 1, math.MaxInt}
}

func tickCounts() []int {
	return []int{0, 1, 2, 3, top - 2, top - 1, top, top + 1, 1<<31 - 1, 1 << 32, topTick - top, topTick - 1, topTick}
}

func wrongTickCounts() []int {
	return []int{math.MinInt, math.MinInt + 1, -topTick, -top, -1, topTick + 1, 1 << 62, math.MaxInt - 1, math.MaxInt}
}

// wantValid tells by the words of the chapter whether b is valid.
func wantValid(b api.Bucket) bool {
	switch {
	case b.Cap < 0, b.Cap > top, b.Fill < 0, b.Fill > top:
		return false
	case b.Level < 0, b.Level > b.Cap:
		return false
	case b.Every < 1, b.Every > top:
		return false
	}
	return b.Due >= 0 && b.Due < b.Every
}

// tick is one tick of a valid bucket, by the words of the chapter.
func tick(b api.Bucket) api.Bucket {
	b.Due++
	for b.Due >= b.Every {
		b.Due -= b.Every
		for range b.Fill {
			if b.Level < b.Cap {
				b.Level++
			}
		}
	}
	return b
}

// later is a valid bucket after n ticks, reckoned with numbers that have no end.
func later(b api.Bucket, n int) api.Bucket {
	ticks := new(big.Int).Add(big.NewInt(int64(b.Due)), big.NewInt(int64(n)))
	fills, due := new(big.Int).DivMod(ticks, big.NewInt(int64(b.Every)), new(big.Int))
	level := fills.Mul(fills, big.NewInt(int64(b.Fill)))
	level.Add(level, big.NewInt(int64(b.Level)))
	b.Due = int(due.Int64())
	b.Level = b.Cap
	if level.Cmp(big.NewInt(int64(b.Cap))) < 0 {
		b.Level = int(level.Int64())
	}
	return b
}

// wantWait looks for the first tick at which a valid bucket has n tokens, halving what lies between.
func wantWait(b api.Bucket, n int) int {
	low, high := 0, 4*topTick // more than any bucket needs to be full
	if later(b, high).Level < n {
		return -1
	}
	for low < high {
		mid := low + (high-low)/2
		if later(b, mid).Level >= n {
			high = mid
		} else {
			low = mid + 1
		}
	}
	return low
}

func judgeCheck(t *testing.T, b api.Bucket) {
	t.Helper()
	want := api.ErrForm
	if wantValid(b) {
		want = api.OK
	}
	if got := Check(b); got != want {
		t.Errorf("Check(%+v): %v, want %v", b, got, want)
	}
}

// judgeNew also asks that the answer is valid, or the zero value beside an error.
func judgeNew(t *testing.T, limit, fill, every int) {
	t.Helper()
	want, wantE := api.Bucket{Level: limit, Cap: limit, Fill: fill, Every: every}, api.OK
	if limit < 0 || limit > top || fill < 0 || fill > top || every < 1 || every > top {
		want, wantE = api.Bucket{}, api.ErrForm
	}
	got, e := New(limit, fill, every)
	if got != want || e != wantE {
		t.Errorf("New(%d, %d, %d): %+v, %v, want %+v, %v", limit, fill, every, got, e, want, wantE)
	}
	if e == api.OK && Check(got) != api.OK {
		t.Errorf("New(%d, %d, %d): %+v is not valid", limit, fill, every, got)
	}
}

func judgePass(t *testing.T, b api.Bucket, n int) {
	t.Helper()
	want, wantE := api.Bucket{}, api.ErrForm
	if wantValid(b) && n >= 0 && n <= topTick {
		want, wantE = later(b, n), api.OK
	}
	got, e := Pass(b, n)
	if got != want || e != wantE {
		t.Errorf("Pass(%+v, %d): %+v, %v, want %+v, %v", b, n, got, e, want, wantE)
	}
	if e == api.OK && Check(got) != api.OK {
		t.Errorf("Pass(%+v, %d): %+v is not valid", b, n, got)
	}
}

func judgeTake(t *testing.T, b api.Bucket, n int) {
	t.Helper()
	want, wantE := b, api.OK
	switch {
	case !wantValid(b), n < 0, n > top:
		want, wantE = api.Bucket{}, api.ErrForm
	case b.Level < n:
		want, wantE = api.Bucket{}, api.ErrLater
	default:
		want.Level -= n
	}
	got, e := Take(b, n)
	if got != want || e != wantE {
		t.Errorf("Take(%+v, %d): %+v, %v, want %+v, %v", b, n, got, e, want, wantE)
	}
	if e == api.OK && Check(got) != api.OK {
		t.Errorf("Take(%+v, %d): %+v is not valid", b, n, got)
	}
}

func judgeWait(t *testing.T, b api.Bucket, n int) {
	t.Helper()
	want, wantE := 0, api.ErrForm
	if wantValid(b) && n >= 0 && n <= top {
		want, wantE = wantWait(b, n), api.OK
	}
	if got, e := Wait(b, n); got != want || e != wantE {
		t.Errorf("Wait(%+v, %d): %d, %v, want %d, %v", b, n, got, e, want, wantE)
	}
}

// pass asks Pass for a bucket, and that it is answered without an error.
func pass(t *testing.T, b api.Bucket, n int) api.Bucket {
	t.Helper()
	next, e := Pass(b, n)
	if e != api.OK {
		t.Fatalf("Pass(%+v, %d): %v", b, n, e)
	}
	return next
}

// judgeWaited asks that Take succeeds behind just as many ticks as Wait says, and behind none fewer.
func judgeWaited(t *testing.T, b api.Bucket, n int) {
	t.Helper()
	w, e := Wait(b, n)
	if e != api.OK || w < -1 || w > topTick {
		t.Fatalf("Wait(%+v, %d): %d, %v", b, n, w, e)
	}
	if w == -1 {
		if _, e := Take(pass(t, b, topTick), n); e != api.ErrLater {
			t.Errorf("%+v: Take(%d) after MaxTick: %v, though it never would", b, n, e)
		}
		return
	}
	if _, e := Take(pass(t, b, w), n); e != api.OK {
		t.Errorf("%+v: Take(%d) after the wait of %d: %v", b, n, w, e)
	}
	if w == 0 {
		return
	}
	for _, early := range []int{0, w / 2, w - 1} {
		if _, e := Take(pass(t, b, early), n); e != api.ErrLater {
			t.Errorf("%+v: Take(%d) after %d of %d ticks: %v", b, n, early, w, e)
		}
	}
}

// P8.1: the numbers that the tests know the limits by.
func TestLimits(t *testing.T) {
	if api.MaxTokens != top || api.MaxTick != topTick {
		t.Errorf("%d, %d", api.MaxTokens, api.MaxTick)
	}
}

// P8.1: cases of Check written out.
func TestCheck(t *testing.T) {
	ok, wrong := api.OK, api.ErrForm
	for _, c := range []struct {
		name                          string
		level, most, fill, every, due int
		want                          api.Errno
	}{
		{"the zero value", 0, 0, 0, 0, 0, wrong},
		{"the least", 0, 0, 0, 1, 0, ok},
		{"the greatest", top, top, top, top, top - 1, ok},
		{"Level -1", -1, 5, 1, 3, 0, wrong},
		{"Level 0", 0, 5, 1, 3, 0, ok},
		{"Level below Cap", 4, 5, 1, 3, 0, ok},
		{"Level at Cap", 5, 5, 1, 3, 0, ok},
		{"Level above Cap", 6, 5, 1, 3, 0, wrong},
		{"Level above a Cap of 0", 1, 0, 1, 3, 0, wrong},
		{"Level above a Cap of MaxTokens", top + 1, top, 1, 3, 0, wrong},
		{"Cap -1 and Level -1", -1, -1, 1, 3, 0, wrong},
		{"Cap -1", 0, -1, 1, 3, 0, wrong},
		{"Cap MaxTokens", 0, top, 1, 3, 0, ok},
		{"Cap above MaxTokens", 0, top + 1, 1, 3, 0, wrong},
		{"Fill -1", 0, 5, -1, 3, 0, wrong},
		{"Fill 0", 0, 5, 0, 3, 0, ok},
		{"Fill above Cap", 0, 5, 6, 3, 0, ok},
		{"Fill MaxTokens", 0, 5, top, 3, 0, ok},
		{"Fill above MaxTokens", 0, 5, top + 1, 3, 0, wrong},
		{"Every 0", 0, 5, 1, 0, 0, wrong},
		{"Every 0 and Due -1", 0, 5, 1, 0, -1, wrong},
		{"Every -1", 0, 5, 1, -1, 0, wrong},
		{"Every 1", 0, 5, 1, 1, 0, ok},
		{"Every MaxTokens", 0, 5, 1, top, 0, ok},
		{"Every above MaxTokens", 0, 5, 1, top + 1, 0, wrong},
		{"Due -1", 0, 5, 1, 3, -1, wrong},
		{"Due Every - 1", 0, 5, 1, 3, 2, ok},
		{"Due Every", 0, 5, 1, 3, 3, wrong},
		{"Due 1 with Every 1", 0, 5, 1, 1, 1, wrong},
		{"Due MaxTokens with Every MaxTokens", 0, 5, 1, top, top, wrong},
		{"the least Every with the greatest Due", 0, 5, 1, math.MinInt, math.MaxInt, wrong},
	} {
		b := api.Bucket{Level: c.level, Cap: c.most, Fill: c.fill, Every: c.every, Due: c.due}
		if got := Check(b); got != c.want {
			t.Errorf("%s: %v, want %v", c.name, got, c.want)
		}
		judgeCheck(t, b)
	}
}

// P8.1: every number in every field.
func TestCheckAllEdges(t *testing.T) {
	for _, b := range edges() {
		judgeCheck(t, b)
	}
	for _, b := range validEdges() {
		judgeCheck(t, b)
	}
}

// P8.1: New, with the example of the chapter, and all its edges.
func TestNew(t *testing.T) {
	if b, e := New(2, 1, 3); b != (api.Bucket{Level: 2, Cap: 2, Fill: 1, Every: 3}) || e != api.OK {
		t.Errorf("%+v, %v", b, e)
	}
	for _, limit := range fields() {
		for _, fill := range fields() {
			for _, every := range fields() {
				judgeNew(t, limit, fill, every)
			}
		}
	}
}

// P8.1: cases of Pass written out.
func TestPass(t *testing.T) {
	for _, c := range []struct {
		name       string
		b          api.Bucket
		n          int
		level, due int
	}{
		{"no tick", api.Bucket{Level: 1, Cap: 9, Fill: 2, Every: 3, Due: 2}, 0, 1, 2},
		{"a tick", api.Bucket{Level: 1, Cap: 9, Fill: 2, Every: 3}, 1, 1, 1},
		{"the tick of a fill", api.Bucket{Level: 1, Cap: 9, Fill: 2, Every: 3, Due: 2}, 1, 3, 0},
		{"a tick behind a fill", api.Bucket{Level: 1, Cap: 9, Fill: 2, Every: 3, Due: 2}, 2, 3, 1},
		{"two fills", api.Bucket{Level: 1, Cap: 9, Fill: 2, Every: 3, Due: 1}, 5, 5, 0},
		{"up to Cap", api.Bucket{Level: 6, Cap: 9, Fill: 3, Every: 3}, 3, 9, 0},
		{"not beyond Cap", api.Bucket{Level: 8, Cap: 9, Fill: 3, Every: 3}, 3, 9, 0},
		{"a full one still counts its ticks", api.Bucket{Level: 9, Cap: 9, Fill: 3, Every: 3, Due: 1}, 1, 9, 2},
		{"a full one is filled", api.Bucket{Level: 9, Cap: 9, Fill: 3, Every: 3, Due: 1}, 3, 9, 1},
		{"Fill 0", api.Bucket{Level: 4, Cap: 9, Every: 3, Due: 1}, 4, 4, 2},
		{"Fill 0 for MaxTick", api.Bucket{Level: 4, Cap: 9, Every: 3}, topTick, 4, 1},
		{"Cap 0", api.Bucket{Fill: 3, Every: 2, Due: 1}, 4, 0, 1},
		{"Fill above Cap", api.Bucket{Cap: 2, Fill: 7, Every: 4, Due: 3}, 1, 2, 0},
		{"Fill above Cap, not yet", api.Bucket{Cap: 2, Fill: 7, Every: 4, Due: 2}, 1, 0, 3},
		{"Every 1", api.Bucket{Cap: 9, Fill: 2, Every: 1}, 3, 6, 0},
		{"MaxTick with all that can be", api.Bucket{Cap: top, Fill: top, Every: 1}, topTick, top, 0},
		{"MaxTick ones", api.Bucket{Cap: top, Fill: 1, Every: top}, topTick, top, 0},
		{"one fewer", api.Bucket{Cap: top, Fill: 1, Every: top}, topTick - 1, top - 1, top - 1},
		{"the greatest Due with MaxTick", api.Bucket{Cap: top, Fill: 1, Every: top, Due: top - 1}, topTick, top, top - 1},
	} {
		want := c.b
		want.Level, want.Due = c.level, c.due
		if got, e := Pass(c.b, c.n); got != want || e != api.OK {
			t.Errorf("%s: %+v, %v, want %+v", c.name, got, e, want)
		}
		judgePass(t, c.b, c.n)
	}
}

// P8.1: cases of Take written out.
func TestTake(t *testing.T) {
	b := api.Bucket{Level: 4, Cap: 9, Fill: 2, Every: 3, Due: 1}
	great := api.Bucket{Level: top, Cap: top, Fill: top, Every: top, Due: top - 1}
	for _, c := range []struct {
		name  string
		b     api.Bucket
		n     int
		level int
		want  api.Errno
	}{
		{"none", b, 0, 4, api.OK},
		{"one", b, 1, 3, api.OK},
		{"all", b, 4, 0, api.OK},
		{"one too many", b, 5, 0, api.ErrLater},
		{"as many as it holds", b, 9, 0, api.ErrLater},
		{"more than it holds", b, 10, 0, api.ErrLater},
		{"MaxTokens", b, top, 0, api.ErrLater},
		{"above MaxTokens", b, top + 1, 0, api.ErrForm},
		{"-1", b, -1, 0, api.ErrForm},
		{"MaxTokens of them", great, top, 0, api.OK},
		{"one fewer of them", great, top - 1, 1, api.OK},
		{"more than MaxTokens of them", great, top + 1, 0, api.ErrForm},
		{"none of none", api.Bucket{Every: 1}, 0, 0, api.OK},
		{"one of none", api.Bucket{Every: 1}, 1, 0, api.ErrLater},
	} {
		want := c.b
		want.Level = c.level
		if c.want != api.OK {
			want = api.Bucket{}
		}
		if got, e := Take(c.b, c.n); got != want || e != c.want {
			t.Errorf("%s: %+v, %v, want %+v, %v", c.name, got, e, want, c.want)
		}
		judgeTake(t, c.b, c.n)
	}
}

// P8.1: cases of Wait written out; the last of the example's kind is the longest that there is.
func TestWait(t *testing.T) {
	b := api.Bucket{Level: 4, Cap: 9, Fill: 2, Every: 3, Due: 1}
	for _, c := range []struct {
		name string
		b    api.Bucket
		n    int
		want int
	}{
		{"for none", b, 0, 0},
		{"for what is there", b, 4, 0},
		{"for one more", b, 5, 2},
		{"for a whole fill", b, 6, 2},
		{"for more than a fill", b, 7, 5},
		{"for all, with a fill that is cut", b, 9, 8},
		{"for more than it holds", b, 10, -1},
		{"for MaxTokens", b, top, -1},
		{"a tick away", api.Bucket{Cap: 9, Fill: 2, Every: 3, Due: 2}, 1, 1},
		{"Due 0", api.Bucket{Cap: 9, Fill: 2, Every: 3}, 1, 3},
		{"Every 1", api.Bucket{Cap: 9, Fill: 2, Every: 1}, 9, 5},
		{"Fill above Cap", api.Bucket{Cap: 2, Fill: 7, Every: 4, Due: 1}, 2, 3},
		{"Fill above Cap, too many", api.Bucket{Cap: 2, Fill: 7, Every: 4, Due: 1}, 3, -1},
		{"Fill 0", api.Bucket{Level: 4, Cap: 9, Every: 3}, 5, -1},
		{"Fill 0, for what is there", api.Bucket{Level: 4, Cap: 9, Every: 3}, 4, 0},
		{"Cap 0, for none", api.Bucket{Fill: 3, Every: 2}, 0, 0},
		{"Cap 0, for one", api.Bucket{Fill: 3, Every: 2}, 1, -1},
		{"MaxTokens at once", api.Bucket{Cap: top, Fill: top, Every: top}, top, top},
		{"MaxTokens one by one, from 5", api.Bucket{Cap: top, Fill: 1, Every: top, Due: 5}, top, topTick - 5},
		{"MaxTokens one by one", api.Bucket{Cap: top, Fill: 1, Every: top}, top, topTick},
		{"MaxTokens one by one, all but a tick", api.Bucket{Level: top - 1, Cap: top, Fill: 1, Every: top, Due: top - 1}, top, 1},
	} {
		if got, e := Wait(c.b, c.n); got != c.want || e != api.OK {
			t.Errorf("%s: %d, %v, want %d", c.name, got, e, c.want)
		}
		judgeWait(t, c.b, c.n)
	}
}

// P8.1, P8.2: every valid bucket of edges with every count, right and wrong.
func TestAllEdges(t *testing.T) {
	for _, b := range validEdges() {
		for _, n := range append(tickCounts(), wrongTickCounts()...) {
			judgePass(t, b, n)
		}
		for _, n := range append(tokenCounts(), wrongTokenCounts()...) {
			judgeTake(t, b, n)
		}
		for _, n := range []int{b.Level - 1, b.Level, b.Level + 1, b.Cap, b.Cap + 1} {
			judgeTake(t, b, n)
		}
	}
}

// P8.1, P8.2: the waits of the same buckets, around what each has and holds.
func TestWaitAllEdges(t *testing.T) {
	for _, b := range validEdges() {
		for _, n := range []int{-1, 0, b.Level, b.Level + 1, b.Level + b.Fill, b.Level + b.Fill + 1, b.Cap - 1, b.Cap, b.Cap + 1, top, top + 1} {
			judgeWait(t, b, n)
			if 0 <= n && n <= top {
				judgeWaited(t, b, n)
			}
		}
	}
}

// small answers all valid buckets with small numbers, those whose Fill is above Cap among them.
func small() []api.Bucket {
	var l []api.Bucket
	for most := range 6 {
		for level := range most + 1 {
			for fill := range 8 {
				for every := 1; every < 5; every++ {
					for due := range every {
						l = append(l, api.Bucket{Level: level, Cap: most, Fill: fill, Every: every, Due: due})
					}
				}
			}
		}
	}
	return l
}

// P8.1, P8.2: small buckets tick by tick: at each tick Pass at once, and Wait as the tick at which the tokens are there.
func TestTickByTick(t *testing.T) {
	const ticks = 30 // more than any of them needs to be full
	for _, b := range small() {
		var walk []api.Bucket
		for x := b; len(walk) < ticks; x = tick(x) {
			walk = append(walk, x)
		}
		one := b
		for n, want := range walk {
			if got := pass(t, b, n); got != want || one != want {
				t.Fatalf("%+v: %d ticks: %+v at once, %+v one by one, want %+v", b, n, got, one, want)
			}
			one = pass(t, one, 1)
		}
		for n := range b.Cap + 3 {
			want := -1
			for k := ticks - 1; k >= 0; k-- {
				if walk[k].Level >= n {
					want = k
				}
			}
			if got, e := Wait(b, n); got != want || e != api.OK {
				t.Fatalf("Wait(%+v, %d): %d, %v, want %d", b, n, got, e, want)
			}
			judgeTake(t, b, n)
			judgeWaited(t, b, n)
		}
	}
}

// P8.2: small buckets, and all ways to cut some ticks in two.
func TestTwoParts(t *testing.T) {
	for _, b := range small() {
		for n := range 14 {
			whole := pass(t, b, n)
			for k := range n + 1 {
				if got := pass(t, pass(t, b, k), n-k); got != whole {
					t.Fatalf("%+v: %d and %d ticks: %+v, at once %+v", b, k, n-k, got, whole)
				}
			}
		}
	}
}

// P8.2: great numbers of ticks in two parts.
func TestTwoPartsAllEdges(t *testing.T) {
	for _, b := range validEdges() {
		for _, n := range tickCounts() {
			whole := pass(t, b, n)
			for _, k := range []int{0, 1, b.Every - 1, b.Every, b.Every - b.Due, n / 2, n - 1, n} {
				if k < 0 || k > n {
					continue
				}
				if got := pass(t, pass(t, b, k), n-k); got != whole {
					t.Fatalf("%+v: %d and %d ticks: %+v, at once %+v", b, k, n-k, got, whole)
				}
			}
		}
	}
}

// P8.1: a bucket that is not valid is refused by every function, with zero values beside the error, whatever n is.
func TestWrongBuckets(t *testing.T) {
	counts := append(append(tokenCounts(), tickCounts()...), append(wrongTokenCounts(), wrongTickCounts()...)...)
	for _, b := range wrongBuckets() {
		if e := Check(b); e != api.ErrForm {
			t.Errorf("Check(%+v): %v", b, e)
		}
		for _, n := range counts {
			refused(t, b, n)
		}
	}
}

// P8.1: the same of all wrong buckets that edges has, with few counts.
func TestWrongEdges(t *testing.T) {
	for _, b := range edges() {
		if wantValid(b) {
			continue
		}
		for _, n := range []int{-1, 0, 1, top + 1, topTick + 1} {
			refused(t, b, n)
		}
	}
}

func refused(t *testing.T, b api.Bucket, n int) {
	t.Helper()
	if got, e := Pass(b, n); got != (api.Bucket{}) || e != api.ErrForm {
		t.Errorf("Pass(%+v, %d): %+v, %v", b, n, got, e)
	}
	if got, e := Take(b, n); got != (api.Bucket{}) || e != api.ErrForm {
		t.Errorf("Take(%+v, %d): %+v, %v", b, n, got, e)
	}
	if got, e := Wait(b, n); got != 0 || e != api.ErrForm {
		t.Errorf("Wait(%+v, %d): %d, %v", b, n, got, e)
	}
}

// P8.1: a count that is refused, with zero values beside the error; Take refuses it ahead of ErrLater.
func TestWrongCounts(t *testing.T) {
	for _, b := range validEdges() {
		for _, n := range wrongTickCounts() {
			if got, e := Pass(b, n); got != (api.Bucket{}) || e != api.ErrForm {
				t.Errorf("Pass(%+v, %d): %+v, %v", b, n, got, e)
			}
		}
		for _, n := range wrongTokenCounts() {
			if got, e := Take(b, n); got != (api.Bucket{}) || e != api.ErrForm {
				t.Errorf("Take(%+v, %d): %+v, %v", b, n, got, e)
			}
			if got, e := Wait(b, n); got != 0 || e != api.ErrForm {
				t.Errorf("Wait(%+v, %d): %d, %v", b, n, got, e)
			}
		}
	}
}

// about answers a number up to most, as often small or near most as between.
func about(r *rand.Rand, most int) int {
	switch r.Intn(4) {
	case 0:
		return r.Intn(min(most, 9) + 1)
	case 1:
		return most - r.Intn(min(most, 9)+1)
	case 2:
		return r.Intn(1<<r.Intn(41)) % (most + 1)
	}
	return r.Intn(most + 1)
}

// P8.1, P8.2: long runs of one bucket after the other, each with many takes, waits and ticks.
func TestRandom(t *testing.T) {
	r := rand.New(rand.NewSource(8))
	for range 400 {
		limit, fill, every := about(r, top), about(r, top), 1+about(r, top-1)
		judgeNew(t, limit, fill, every)
		b, e := New(limit, fill, every)
		if e != api.OK {
			t.Fatalf("New(%d, %d, %d): %v", limit, fill, every, e)
		}
		for range 40 {
			n := about(r, top)
			if r.Intn(2) == 0 {
				n = about(r, b.Cap)
			}
			judgeTake(t, b, n)
			judgeWait(t, b, n)
			judgeWaited(t, b, n)
			if next, e := Take(b, n); e == api.OK {
				b = next
			}
			ticks := about(r, topTick)
			if r.Intn(2) == 0 {
				ticks = about(r, 2*b.Every)
			}
			judgePass(t, b, ticks)
			part := r.Intn(ticks + 1)
			whole := pass(t, b, ticks)
			if got := pass(t, pass(t, b, part), ticks-part); got != whole {
				t.Fatalf("%+v: %d and %d ticks: %+v, at once %+v", b, part, ticks-part, got, whole)
			}
			b = whole
		}
	}
}

// The way of all parsers: a panic that is no wrong input goes on.
func TestOtherPanicsGoOn(t *testing.T) {
	for _, c := range []struct {
		name string
		p    any
	}{{"a text", "mistake"}, {"an error number", api.ErrForm}} {
		func() {
			defer func() {
				if p := recover(); p != c.p {
					t.Errorf("%s: %v came out of catch", c.name, p)
				}
			}()
			catch(func() { panic(c.p) })
		}()
	}
	if e := catch(func() { panic(fault{api.ErrLater}) }); e != api.ErrLater {
		t.Errorf("a fault with ErrLater: %v", e)
	}
	if e := catch(func() {}); e != api.OK {
		t.Errorf("no panic: %v", e)
	}
}
