package backoff

import (
	"math"
	"math/big"
	"math/rand"
	"slices"
	"testing"

	"pouch/api"
)

const (
	topTick  = 1 << 40 // MaxTick, as the limits say it
	topTable = 16      // MaxBackoff
	topTries = 1 << 20 // as the chapter says it
)

func goodNumbers() []int {
	return []int{1, 2, 3, 7, 1<<31 - 1, 1 << 31, 1 << 32, topTick - 2, topTick - 1, topTick}
}

func wrongNumbers() []int {
	return []int{math.MinInt, math.MinInt + 1, -topTick, -1 << 32, -2, -1, 0, topTick + 1, topTick + 2, 2 * topTick, 1 << 62, math.MaxInt - 1, math.MaxInt}
}

// tries are numbers of tries for a table of that length: its edges, those of the limits, and wrong ones.
func tries(length int) []int {
	return []int{
		math.MinInt, math.MinInt + 1, -1 << 32, -topTries, -2, -1, 0, 1, 2, 3,
		length - 2, length - 1, length, length + 1, length + 2, topTable - 1, topTable, topTable + 1,
		topTries / 2, topTries - 1, topTries, topTries + 1, topTries + 2, topTick, 1<<32 + 1, 1 << 62, math.MaxInt - 1, math.MaxInt,
	}
}

// alike has the number x at each of its places.
func alike(length, x int) []int {
	l := make([]int, length)
	for i := range l {
		l[i] = x
	}
	return l
}

// steps begins with a number, and goes on by a step.
func steps(length, from, by int) []int {
	l := make([]int, length)
	for i := range l {
		l[i] = from + i*by
	}
	return l
}

// with is l but for the number at the place i.
func with(l []int, i, x int) []int {
	l = slices.Clone(l)
	l[i] = x
	return l
}

// zigzag neither rises nor falls.
func zigzag(length int) []int {
	l := steps(length, 50, 3)
	for i := range l {
		if i%2 == 1 {
			l[i] = 20 - i
		}
	}
	return l
}

// goodTables are valid, of every length: rising, falling, neither, all numbers
// alike, and each good number at each place among less and among greater ones.
func goodTables() [][]int {
	var all [][]int
	for length := 1; length <= topTable; length++ {
		all = append(all,
			steps(length, 1, 1), steps(length, length, -1), zigzag(length),
			steps(length, topTick-length+1, 1), steps(length, topTick, -1))
		for _, x := range goodNumbers() {
			all = append(all, alike(length, x))
			for i := range length {
				all = append(all, with(alike(length, 1), i, x), with(alike(length, topTick), i, x), with(zigzag(length), i, x))
			}
		}
	}
	return all
}

// wrongTables are not valid: by their length alone, by one number at any of
// their places alone, and by several things.
func wrongTables() [][]int {
	all := [][]int{
		nil, {}, make([]int, 0, 5), alike(3, 4)[:0],
		make([]int, 1), make([]int, topTable), make([]int, topTable+1),
		alike(2, math.MinInt), alike(2, math.MaxInt), {math.MinInt, math.MaxInt}, {topTick + 1, 0}, {0, topTick + 1},
	}
	for _, length := range []int{topTable + 1, topTable + 2, 2 * topTable, 255, 256, 257, 1 << 16, 1<<16 + 1} {
		all = append(all, alike(length, 1), alike(length, topTick), steps(length, 1, 1), with(alike(length, 1), length-1, -1))
	}
	for length := 1; length <= topTable; length++ {
		for _, x := range wrongNumbers() {
			for i := range length {
				all = append(all, with(alike(length, 1), i, x), with(alike(length, topTick), i, x), with(zigzag(length), i, x))
			}
		}
	}
	return all
}

// wantValid tells by the words of the chapter whether l is valid.
func wantValid(l []int) bool {
	if len(l) == 0 || len(l) > topTable {
		return false
	}
	for _, x := range l {
		if x < 1 || x > topTick {
			return false
		}
	}
	return true
}

func wantCheck(l []int) api.Errno {
	if wantValid(l) {
		return api.OK
	}
	return api.ErrForm
}

func wantNext(l []int, n int) (int, api.Errno) {
	if !wantValid(l) || n < 1 || n > topTries {
		return 0, api.ErrForm
	}
	if n <= len(l) {
		return l[n-1], api.OK
	}
	return l[len(l)-1], api.OK
}

func wantMost(l []int) (int, api.Errno) {
	if !wantValid(l) {
		return 0, api.ErrForm
	}
	sorted := slices.Sorted(slices.Values(l))
	return sorted[len(sorted)-1], api.OK
}

// wantAll reckons with numbers that have no end: what lies beyond the table by one product.
func wantAll(l []int, n int) (int, api.Errno) {
	if !wantValid(l) || n < 0 || n > topTries {
		return 0, api.ErrForm
	}
	sum := new(big.Int)
	for i := 0; i < n && i < len(l); i++ {
		sum.Add(sum, big.NewInt(int64(l[i])))
	}
	if n > len(l) {
		rest := big.NewInt(int64(n - len(l)))
		sum.Add(sum, rest.Mul(rest, big.NewInt(int64(l[len(l)-1]))))
	}
	return int(sum.Int64()), api.OK
}

// guarded hands out a copy of l with room behind it. What it answers beside
// that asks that neither the copy nor the room was written to.
func guarded(t *testing.T, l []int) (handed []int, intact func()) {
	t.Helper()
	const guard = 99
	whole := append(slices.Clone(l), guard, guard, guard)
	return whole[:len(l)], func() {
		t.Helper()
		if !slices.Equal(whole[:len(l)], l) || !slices.Equal(whole[len(l):], alike(3, guard)) {
			t.Errorf("the table %v became %v, with %v behind it", l, whole[:len(l)], whole[len(l):])
		}
	}
}

// judgeTable holds Check and Most against the chapter's words.
func judgeTable(t *testing.T, l []int) {
	t.Helper()
	handed, intact := guarded(t, l)
	if got, want := Check(handed), wantCheck(l); got != want {
		t.Errorf("Check(%v): %v, want %v", l, got, want)
	}
	intact()
	want, wantE := wantMost(l)
	if got, e := Most(handed); got != want || e != wantE {
		t.Errorf("Most(%v): %d, %v, want %d, %v", l, got, e, want, wantE)
	}
	intact()
}

// judgeTries holds Next and All against the chapter's words.
func judgeTries(t *testing.T, l []int, n int) {
	t.Helper()
	handed, intact := guarded(t, l)
	want, wantE := wantNext(l, n)
	if got, e := Next(handed, n); got != want || e != wantE {
		t.Errorf("Next(%v, %d): %d, %v, want %d, %v", l, n, got, e, want, wantE)
	}
	intact()
	want, wantE = wantAll(l, n)
	if got, e := All(handed, n); got != want || e != wantE {
		t.Errorf("All(%v, %d): %d, %v, want %d, %v", l, n, got, e, want, wantE)
	}
	intact()
}

func next(t *testing.T, l []int, n int) int {
	t.Helper()
	x, e := Next(l, n)
	if e != api.OK {
		t.Fatalf("Next(%v, %d): %v", l, n, e)
	}
	return x
}

func all(t *testing.T, l []int, n int) int {
	t.Helper()
	x, e := All(l, n)
	if e != api.OK {
		t.Fatalf("All(%v, %d): %v", l, n, e)
	}
	return x
}

// walk asks that each All up to n tries is the sum of the Nexts ahead of it.
func walk(t *testing.T, l []int, n int) {
	t.Helper()
	sum := 0
	for i := 1; i <= n; i++ {
		sum += next(t, l, i)
		if got := all(t, l, i); got != sum {
			t.Fatalf("All(%v, %d): %d, but the sum of Next is %d", l, i, got, sum)
		}
	}
}

// P11.1: the numbers that the tests know the limits by.
func TestLimits(t *testing.T) {
	if api.MaxBackoff != topTable || api.MaxTick != topTick {
		t.Errorf("%d, %d", api.MaxBackoff, api.MaxTick)
	}
}

// P11.1: cases of Check written out.
func TestCheck(t *testing.T) {
	ok, wrong := api.OK, api.ErrForm
	for _, c := range []struct {
		name string
		l    []int
		want api.Errno
	}{
		{"nil", nil, wrong},
		{"no number", []int{}, wrong},
		{"no number, but room for some", make([]int, 0, 4), wrong},
		{"one number", []int{5}, ok},
		{"two numbers", []int{1, 4}, ok},
		{"MaxBackoff - 1 numbers", alike(topTable-1, 3), ok},
		{"MaxBackoff numbers", alike(topTable, 3), ok},
		{"MaxBackoff + 1 numbers", alike(topTable+1, 3), wrong},
		{"MaxBackoff + 1 numbers, the last not valid", with(alike(topTable+1, 3), topTable, 0), wrong},
		{"2^16 + 1 numbers", alike(1<<16+1, 3), wrong},
		{"0 alone", []int{0}, wrong},
		{"1 alone", []int{1}, ok},
		{"2 alone", []int{2}, ok},
		{"-1 alone", []int{-1}, wrong},
		{"MaxTick - 1 alone", []int{topTick - 1}, ok},
		{"MaxTick alone", []int{topTick}, ok},
		{"MaxTick + 1 alone", []int{topTick + 1}, wrong},
		{"the least integer", []int{math.MinInt}, wrong},
		{"the greatest integer", []int{math.MaxInt}, wrong},
		{"0 at the beginning", []int{0, 4, 5}, wrong},
		{"0 in the midst", []int{4, 0, 5}, wrong},
		{"0 at the end", []int{4, 5, 0}, wrong},
		{"1 at each place", []int{1, 1, 1}, ok},
		{"MaxTick at each place", []int{topTick, topTick, topTick}, ok},
		{"MaxTick + 1 at the beginning", []int{topTick + 1, 4, 5}, wrong},
		{"MaxTick + 1 in the midst", []int{4, topTick + 1, 5}, wrong},
		{"MaxTick + 1 at the end", []int{4, 5, topTick + 1}, wrong},
		{"MaxBackoff numbers, the last 0", with(alike(topTable, 3), topTable-1, 0), wrong},
		{"MaxBackoff numbers, the last MaxTick + 1", with(alike(topTable, 3), topTable-1, topTick+1), wrong},
		{"two that make up for each other", []int{-1, 3}, wrong},
		{"a rise", []int{1, 2, 3}, ok},
		{"a fall", []int{3, 2, 1}, ok},
		{"neither", []int{2, 3, 1}, ok},
	} {
		if got := Check(c.l); got != c.want {
			t.Errorf("%s: %v, want %v", c.name, got, c.want)
		}
		judgeTable(t, c.l)
	}
}

// P11.1: cases of Next and All written out, that of the chapter's example first.
func TestTries(t *testing.T) {
	great := alike(topTable, topTick)
	rise := steps(topTable, 1, 1)
	for _, c := range []struct {
		name      string
		l         []int
		n         int
		next, sum int
	}{
		{"the example, the first", []int{1, 4}, 1, 1, 1},
		{"the example, the second", []int{1, 4}, 2, 4, 5},
		{"the example, the third", []int{1, 4}, 3, 4, 9},
		{"the example, the fifth", []int{1, 4}, 5, 4, 17},
		{"one number", []int{7}, 1, 7, 7},
		{"one number, beyond it", []int{7}, 2, 7, 14},
		{"one number, 2^20 - 1 tries", []int{7}, topTries - 1, 7, 7 * (topTries - 1)},
		{"one number, 2^20 tries", []int{7}, topTries, 7, 7 * topTries},
		{"a fall, one below its length", []int{9, 5, 2}, 2, 5, 14},
		{"a fall, at its length", []int{9, 5, 2}, 3, 2, 16},
		{"a fall, one above its length", []int{9, 5, 2}, 4, 2, 18},
		{"neither, at its length", []int{3, 1, 2}, 3, 2, 6},
		{"neither, beyond it", []int{3, 1, 2}, 10, 2, 20},
		{"MaxBackoff numbers, one below", rise, topTable - 1, 15, 120},
		{"MaxBackoff numbers, at the last", rise, topTable, 16, 136},
		{"MaxBackoff numbers, one above", rise, topTable + 1, 16, 152},
		{"MaxBackoff numbers, 2^20 tries", rise, topTries, 16, 136 + 16*(topTries-topTable)},
		{"the least sum of 2^20 tries", []int{1}, topTries, 1, topTries},
		{"MaxTick once", []int{topTick}, 1, topTick, topTick},
		{"the greatest sum, by one number", []int{topTick}, topTries, topTick, 1 << 60},
		{"the greatest sum, by MaxBackoff", great, topTries, topTick, 1 << 60},
		{"a try fewer", great, topTries - 1, topTick, 1<<60 - topTick},
		{"a tick fewer", with(great, 0, topTick-1), topTries, topTick, 1<<60 - 1},
	} {
		if got, e := Next(c.l, c.n); got != c.next || e != api.OK {
			t.Errorf("%s: Next: %d, %v, want %d", c.name, got, e, c.next)
		}
		if got, e := All(c.l, c.n); got != c.sum || e != api.OK {
			t.Errorf("%s: All: %d, %v, want %d", c.name, got, e, c.sum)
		}
		judgeTries(t, c.l, c.n)
	}
}

// P11.1: no try was waited for yet: All knows that, and Next doesn't.
func TestNoTry(t *testing.T) {
	for _, l := range goodTables() {
		if got, e := All(l, 0); got != 0 || e != api.OK {
			t.Errorf("All(%v, 0): %d, %v", l, got, e)
		}
		if got, e := Next(l, 0); got != 0 || e != api.ErrForm {
			t.Errorf("Next(%v, 0): %d, %v", l, got, e)
		}
	}
}

// P11.1: cases of Most written out.
func TestMost(t *testing.T) {
	for _, c := range []struct {
		l    []int
		want int
	}{
		{[]int{1, 4}, 4},
		{[]int{4, 1}, 4},
		{[]int{5}, 5},
		{[]int{1}, 1},
		{[]int{topTick}, topTick},
		{[]int{9, 5, 2}, 9},
		{[]int{2, 9, 5}, 9},
		{[]int{2, 5, 9}, 9},
		{[]int{9, 2, 9}, 9},
		{[]int{9, 9, 9}, 9},
		{[]int{2, 9, 9}, 9},
		{[]int{topTick - 1, topTick, topTick - 2}, topTick},
		{[]int{1<<32 + 1, 1<<31 - 1, 1 << 32}, 1<<32 + 1},
	} {
		if got, e := Most(c.l); got != c.want || e != api.OK {
			t.Errorf("Most(%v): %d, %v, want %d", c.l, got, e, c.want)
		}
	}
}

// P11.1: the greatest number at each place of a table of each length, and at any two of its places.
func TestMostPlaces(t *testing.T) {
	for length := 1; length <= topTable; length++ {
		for i := range length {
			for j := range length {
				l := with(with(zigzag(length), i, 1000), j, 1000)
				if got, e := Most(l); got != 1000 || e != api.OK {
					t.Errorf("Most(%v): %d, %v", l, got, e)
				}
				for _, x := range []int{999, 1000, 1001, topTick} {
					judgeTable(t, with(l, j, x))
				}
			}
		}
	}
}

// P11.1: every table of edges with every number of tries, right and wrong.
func TestAllEdges(t *testing.T) {
	for _, l := range append(goodTables(), wrongTables()...) {
		judgeTable(t, l)
		for _, n := range tries(len(l)) {
			judgeTries(t, l, n)
		}
	}
}

// P11.1: each number with its neighbours, at each place of a table of each length.
func TestNumbers(t *testing.T) {
	for length := 1; length <= topTable; length++ {
		for i := range length {
			for _, edge := range []int{math.MinInt, 0, topTick, math.MaxInt} {
				for x := edge - 2; x != edge+3; x++ {
					judgeTable(t, with(alike(length, 5), i, x))
				}
			}
		}
	}
}

// P11.1: each number of tries around the edges, with tables of every length.
func TestTryCounts(t *testing.T) {
	for length := range topTable + 3 {
		for _, l := range [][]int{steps(length, 3, 2), steps(length, topTick, -1)} {
			for n := -20; n <= 40; n++ {
				judgeTries(t, l, n)
			}
			for n := topTries - 20; n <= topTries+20; n++ {
				judgeTries(t, l, n)
			}
		}
	}
}

// P11.1: a table that is not valid, or a wrong number of tries, or both: refused, with 0 beside the error.
func TestRefused(t *testing.T) {
	few := []int{-1, 0, 1, topTries, topTries + 1}
	for _, l := range wrongTables() {
		if e := Check(l); e != api.ErrForm {
			t.Errorf("Check(%v): %v", l, e)
		}
		if got, e := Most(l); got != 0 || e != api.ErrForm {
			t.Errorf("Most(%v): %d, %v", l, got, e)
		}
		for _, n := range few {
			refused(t, l, n)
		}
	}
	for _, l := range goodTables() {
		for _, n := range []int{math.MinInt, math.MinInt + 1, -topTries, -1, topTries + 1, 1<<32 + 1, math.MaxInt - 1, math.MaxInt} {
			refused(t, l, n)
		}
	}
}

func refused(t *testing.T, l []int, n int) {
	t.Helper()
	if got, e := Next(l, n); got != 0 || e != api.ErrForm {
		t.Errorf("Next(%v, %d): %d, %v", l, n, got, e)
	}
	if got, e := All(l, n); got != 0 || e != api.ErrForm {
		t.Errorf("All(%v, %d): %d, %v", l, n, got, e)
	}
}

// P11.1: a table is not kept: one that is changed answers as a new one, and as before when it is changed back.
func TestTableNotKept(t *testing.T) {
	l := []int{1, 4, 2}
	for range 3 {
		judgeTable(t, l)
		judgeTries(t, l, 5)
		l[0], l[2] = 8, 9
		judgeTable(t, l)
		judgeTries(t, l, 5)
		l[1] = 0
		judgeTable(t, l)
		judgeTries(t, l, 5)
		l[0], l[1], l[2] = 1, 4, 2
	}
}

// P11.2: every table of edges, some tries beyond its end.
func TestSums(t *testing.T) {
	for _, l := range goodTables() {
		walk(t, l, len(l)+4)
	}
}

// P11.2: the last tries: from each to the one after it, All grows by what Next says.
func TestSumsAtTheEnd(t *testing.T) {
	for _, l := range goodTables() {
		for n := topTries - 3; n < topTries; n++ {
			if got := all(t, l, n+1) - all(t, l, n); got != next(t, l, n+1) {
				t.Errorf("%v: All grows by %d from %d tries on, but Next is %d", l, got, n, next(t, l, n+1))
			}
		}
	}
}

// P11.2: all tries that there are, one by one.
func TestSumsOfAllTries(t *testing.T) {
	for _, l := range [][]int{{1}, {1, 4}, {9, 5, 2}, zigzag(topTable), alike(topTable, topTick)} {
		walk(t, l, topTries)
	}
}

// P11.1, P11.2: small tables, all there are of up to four numbers.
func TestSmall(t *testing.T) {
	for length := range 5 {
		tables := 1
		for range length {
			tables *= 5
		}
		for code := range tables {
			l := make([]int, length)
			for i := range l {
				l[i] = code % 5 // 0 among them, which is not valid
				code /= 5
			}
			judgeTable(t, l)
			for n := -1; n < 8; n++ {
				judgeTries(t, l, n)
			}
			if wantValid(l) {
				walk(t, l, 8)
			}
		}
	}
}

// P11.1, P11.2: random tables and tries, most of them right.
func TestRandom(t *testing.T) {
	r := rand.New(rand.NewSource(11))
	for range 5000 {
		l := make([]int, 1+r.Intn(topTable))
		for i := range l {
			l[i] = 1 + r.Intn(1<<r.Intn(41))
		}
		if r.Intn(8) == 0 {
			l[r.Intn(len(l))] = wrongNumbers()[r.Intn(len(wrongNumbers()))]
		}
		judgeTable(t, l)
		for range 8 {
			judgeTries(t, l, r.Intn(1<<r.Intn(21))+1)
			judgeTries(t, l, r.Intn(len(l)+3))
			judgeTries(t, l, r.Intn(4*topTries)-topTries)
		}
	}
}

// The way of all parsers: a panic that is no wrong input goes on.
func TestOtherPanicsGoOn(t *testing.T) {
	for _, c := range []struct {
		name string
		p    any
	}{{"a text", "mistake"}, {"an error number", api.ErrForm}} {
		func() {
			defer func() {
				if p := recover(); p != c.p {
					t.Errorf("%s: %v came out of catch", c.name, p)
				}
			}()
			catch(func() { panic(c.p) })
		}()
	}
	if e := catch(func() { panic(fault{api.ErrLater}) }); e != api.ErrLater {
		t.Errorf("a fault with ErrLater: %v", e)
	}
	if e := catch(func() {}); e != api.OK {
		t.Errorf("no panic: %v", e)
	}
}
