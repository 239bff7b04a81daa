package grey

import (
	"cmp"
	"fmt"
	"math"
	"math/rand"
	"slices"
	"strings"
	"testing"

	"pouch/api"
)

const (
	most    = 32      // MaxGreys, as the limits say it
	topKey  = 700     // bytes of a key, as the chapter says it
	topTick = 1 << 40 // MaxTick
	age     = 1 << 16 // GreyAge
)

func entry(key string, born, last int, pass bool) api.Grey {
	return api.Grey{Key: key, Born: born, Last: last, Pass: pass}
}

// many answers n entries with the keys k00, k01 and on, all of them born at born and asked for at last.
func many(n, born, last int) []api.Grey {
	var l []api.Grey
	for i := range n {
		l = append(l, entry(fmt.Sprintf("k%02d", i), born, last, i%3 == 0))
	}
	return l
}

func ticks() []int {
	return []int{0, 1, 2, age - 1, age, age + 1, 2 * age, topTick - age, topTick - 1, topTick}
}

func wrongTicks() []int {
	return []int{math.MinInt, math.MinInt + 1, math.MinInt + age, -topTick, -age, -1, topTick + 1, topTick + age, 1 << 62, math.MaxInt - age, math.MaxInt}
}

func wrongKeys() []string {
	return []string{"", strings.Repeat("x", topKey+1), strings.Repeat("x", topKey) + "\x00", strings.Repeat("x", 1<<16)}
}

// oddKeys are valid keys, some of them of bytes that are no letters, in their order.
func oddKeys() []string {
	return []string{
		"\x00", "\x00\x00", "\x00\xff", "\n", "\r\n", " ", "  ", "7 a@b c@d", "A", "a", "a\x00", "aa", "ab", "b",
		strings.Repeat("x", topKey-1), strings.Repeat("x", topKey-1) + "\x00", strings.Repeat("x", topKey),
		strings.Repeat("x", topKey-1) + "y", "\x7f", "\x80", "\xc3\xa4", "\xff", strings.Repeat("\xff", topKey),
	}
}

// wrongLists are not valid, each by one thing alone, and the last ones by several.
func wrongLists() []named {
	long := strings.Repeat("x", topKey+1)
	all := []named{
		{"an entry of zeros", []api.Grey{{}}},
		{"no key behind another", []api.Grey{entry("a", 1, 2, false), entry("", 1, 2, false)}},
		{"a key too long", []api.Grey{entry(long, 1, 2, false)}},
		{"two keys alike", []api.Grey{entry("a", 1, 2, false), entry("a", 1, 2, false)}},
		{"two keys alike, of other ticks", []api.Grey{entry("a", 1, 2, false), entry("a", 3, 4, true)}},
		{"two keys out of order", []api.Grey{entry("b", 1, 2, false), entry("a", 1, 2, false)}},
		{"a key ahead of what it begins with", []api.Grey{entry("ab", 1, 2, false), entry("a", 1, 2, false)}},
		{"keys ordered as signed bytes", []api.Grey{entry("\x80", 1, 2, false), entry("\x7f", 1, 2, false)}},
		{"keys ordered without case", []api.Grey{entry("a", 1, 2, false), entry("B", 1, 2, false)}},
		{"Born above Last", []api.Grey{entry("a", 3, 2, true)}},
		{"one too many", many(most+1, 1, 2)},
		{"far too many", manyMore()},
		{"one too many, of zeros", make([]api.Grey, most+1)},
		{"several", []api.Grey{entry(long, 5, -1, true), entry("", topTick+1, 3, true)}},
	}
	for _, tick := range wrongTicks() {
		all = append(all,
			named{fmt.Sprint("Born and Last ", tick), []api.Grey{entry("a", tick, tick, false)}},
			named{fmt.Sprint("Born ", tick), []api.Grey{entry("a", tick, topTick, false)}},
			named{fmt.Sprint("Last ", tick), []api.Grey{entry("a", 0, tick, false)}})
	}
	return all
}

type named struct {
	name string
	l    []api.Grey
}

func manyMore() []api.Grey {
	var l []api.Grey
	for i := range 5000 {
		l = append(l, entry(fmt.Sprintf("k%04d", i), 1, 2, false))
	}
	return l
}

// wantValid tells by the words of the chapter whether l is valid.
func wantValid(l []api.Grey) bool {
	keys := map[string]int{}
	for _, g := range l {
		keys[g.Key]++
		if n := len(g.Key); n == 0 || n > topKey {
			return false
		}
		if g.Born < 0 || g.Last > topTick || g.Last < g.Born {
			return false
		}
	}
	ordered := slices.IsSortedFunc(l, func(a, b api.Grey) int { return slices.Compare([]byte(a.Key), []byte(b.Key)) })
	return ordered && len(keys) == len(l) && len(l) <= most
}

// wantAsk does what the chapter's words say, step by step, with the entries in a map.
func wantAsk(l []api.Grey, key string, now, wait int) ([]api.Grey, bool, api.Errno) {
	if !wantValid(l) || len(key) == 0 || len(key) > topKey || now < 0 || now > topTick || wait < 0 || wait > topTick {
		return nil, false, api.ErrForm
	}
	entries := map[string]api.Grey{}
	for _, g := range l {
		if g.Last+age < now {
			continue
		}
		entries[g.Key] = g
	}
	if g, there := entries[key]; there {
		if g.Last <= now {
			g.Last = now
		}
		if g.Born+wait <= now {
			g.Pass = true
		}
		entries[key] = g
	} else {
		if len(entries) == most {
			delete(entries, wantGone(entries))
		}
		entries[key] = entry(key, now, now, wait == 0)
	}
	return inOrder(entries), entries[key].Pass, api.OK
}

// wantGone answers the key of the entry that gives way.
func wantGone(entries map[string]api.Grey) string {
	l := inOrder(entries)
	slices.SortFunc(l, func(a, b api.Grey) int {
		return cmp.Or(cmp.Compare(a.Last, b.Last), cmp.Compare(a.Key, b.Key))
	})
	return l[0].Key
}

func inOrder(entries map[string]api.Grey) []api.Grey {
	var l []api.Grey
	for _, g := range entries {
		l = append(l, g)
	}
	slices.SortFunc(l, func(a, b api.Grey) int { return cmp.Compare(a.Key, b.Key) })
	return l
}

// roomy answers a copy of l whose spare capacity is filled, so that a write behind its end can be seen.
func roomy(l []api.Grey) []api.Grey {
	room := slices.Clone(l)
	for i := range 4 {
		room = append(room, entry("spare", -i, i, true))
	}
	return room[:len(l)]
}

func judgeCheck(t *testing.T, l []api.Grey) {
	t.Helper()
	want := api.ErrForm
	if wantValid(l) {
		want = api.OK
	}
	was := roomy(l)
	in := roomy(l)
	if got := Check(in); got != want {
		t.Errorf("Check(%s): %v, want %v", show(l), got, want)
	}
	judgeSame(t, "Check", in, was)
}

// judgeAsk asks for the answer that the words of the chapter give, that it is
// valid, that it is the same a second time, and that no list has changed another.
func judgeAsk(t *testing.T, l []api.Grey, key string, now, wait int) []api.Grey {
	t.Helper()
	what := fmt.Sprintf("Ask(%s, %s, %d, %d)", show(l), shorten(key), now, wait)
	want, wantPass, wantE := wantAsk(l, key, now, wait)
	in, was := roomy(l), roomy(l)
	got, pass, e := Ask(in, key, now, wait)
	again, _, _ := Ask(in, key, now, wait)
	if !slices.Equal(got, want) || pass != wantPass || e != wantE {
		t.Errorf("%s: %s, %v, %v, want %s, %v, %v", what, show(got), pass, e, show(want), wantPass, wantE)
	}
	if e == api.OK && Check(got) != api.OK {
		t.Errorf("%s: %s is not valid", what, show(got))
	}
	spoil(got)
	if !slices.Equal(again, want) {
		t.Errorf("%s: answers share memory, or are not the same: %s, want %s", what, show(again), show(want))
	}
	judgeSame(t, what, in, was)
	return again
}

// spoil writes over all that l reaches.
func spoil(l []api.Grey) {
	l = l[:cap(l)]
	for i := range l {
		l[i] = entry("spoiled", -7, -8, true)
	}
}

// judgeSame asks that in is what it was, up to its capacity.
func judgeSame(t *testing.T, what string, in, was []api.Grey) {
	t.Helper()
	if !slices.Equal(in[:len(in)+4], was[:len(was)+4]) {
		t.Errorf("%s: the list that was handed in is changed: %s", what, show(in[:len(in)+4]))
	}
}

func show(l []api.Grey) string {
	var parts []string
	for _, g := range l[:min(len(l), most+2)] {
		parts = append(parts, fmt.Sprintf("{%s %d %d %v}", shorten(g.Key), g.Born, g.Last, g.Pass))
	}
	return fmt.Sprintf("%d:%v", len(l), parts)
}

func shorten(s string) string {
	if len(s) > 20 {
		return fmt.Sprintf("%q..(%d)", s[:20], len(s))
	}
	return fmt.Sprintf("%q", s)
}

// refused asks that Ask refuses, with zero values beside the error.
func refused(t *testing.T, name string, l []api.Grey, key string, now, wait int) {
	t.Helper()
	if got, pass, e := Ask(l, key, now, wait); len(got) != 0 || pass || e != api.ErrForm {
		t.Errorf("%s: Ask(%s, %s, %d, %d): %s, %v, %v", name, show(l), shorten(key), now, wait, show(got), pass, e)
	}
}

// P9.1, P9.2: the numbers that the tests know the limits by.
func TestLimits(t *testing.T) {
	if api.MaxGreys != most || api.MaxTick != topTick || api.GreyAge != age {
		t.Errorf("%d, %d, %d", api.MaxGreys, api.MaxTick, api.GreyAge)
	}
}

// P9.1: lists that are valid.
func TestCheckValid(t *testing.T) {
	long := strings.Repeat("x", topKey)
	for _, c := range []named{
		{"none", nil},
		{"none, but not nil", []api.Grey{}},
		{"one", many(1, 3, 5)},
		{"all but one", many(most-1, 3, 5)},
		{"as many as may be", many(most, 3, 5)},
		{"the shortest key", []api.Grey{entry("a", 0, 0, false)}},
		{"the longest key but one", []api.Grey{entry(long[1:], 0, 0, false)}},
		{"the longest key", []api.Grey{entry(long, 0, 0, false)}},
		{"a key that begins another", []api.Grey{entry("a", 0, 0, false), entry("ab", 0, 0, false)}},
		{"a long key that begins another", []api.Grey{entry(long[1:], 0, 0, false), entry(long, 0, 0, false)}},
		{"keys that differ in the last byte", []api.Grey{entry(long[1:]+"x", 0, 0, false), entry(long[1:]+"y", 0, 0, false)}},
		{"bytes above letters", []api.Grey{entry("\x7f", 0, 0, false), entry("\x80", 0, 0, false), entry("\xff", 0, 0, false)}},
		{"capitals ahead", []api.Grey{entry("B", 0, 0, false), entry("a", 0, 0, false)}},
		{"a zero byte", []api.Grey{entry("\x00", 0, 0, false), entry("\x00\x00", 0, 0, false)}},
		{"Born at Last", []api.Grey{entry("a", 7, 7, false)}},
		{"Born below Last", []api.Grey{entry("a", 6, 7, false)}},
		{"the greatest ticks", []api.Grey{entry("a", topTick, topTick, true)}},
		{"from the first tick to the last", []api.Grey{entry("a", 0, topTick, true)}},
		{"Born falls from entry to entry", []api.Grey{entry("a", 5, 9, true), entry("b", 4, 8, false)}},
	} {
		if e := Check(c.l); e != api.OK {
			t.Errorf("%s: %v", c.name, e)
		}
		judgeCheck(t, c.l)
	}
	for i, a := range oddKeys() {
		judgeCheck(t, []api.Grey{entry(a, 0, 0, false)})
		for _, b := range oddKeys()[i:] {
			judgeCheck(t, []api.Grey{entry(a, 0, 0, false), entry(b, 0, 0, false)})
			judgeCheck(t, []api.Grey{entry(b, 0, 0, false), entry(a, 0, 0, false)})
		}
	}
}

// P9.1: lists that are not valid, alone and with a valid entry on each side.
func TestCheckWrong(t *testing.T) {
	for _, c := range wrongLists() {
		if e := Check(c.l); e != api.ErrForm {
			t.Errorf("%s: %v", c.name, e)
		}
		judgeCheck(t, c.l)
		between := append(append([]api.Grey{entry("\x00", 0, 0, false)}, c.l...), entry("zz", 0, 0, false))
		if e := Check(between); e != api.ErrForm {
			t.Errorf("%s, between two others: %v", c.name, e)
		}
	}
}

// P9.1: all ticks as Born and Last.
func TestCheckTicks(t *testing.T) {
	all := append(ticks(), wrongTicks()...)
	for _, born := range all {
		for _, last := range all {
			judgeCheck(t, []api.Grey{entry("a", born, last, false)})
			judgeCheck(t, []api.Grey{entry("a", 0, 0, true), entry("b", born, last, true)})
		}
	}
}

// P9.1: one fault in a full list, at each of its places.
func TestCheckEachPlace(t *testing.T) {
	for at := range most {
		for i, spoiled := range []func(g *api.Grey){
			func(g *api.Grey) { g.Key = "" },
			func(g *api.Grey) { g.Key += strings.Repeat("x", topKey-2) },
			func(g *api.Grey) { g.Born = -1 },
			func(g *api.Grey) { g.Born = g.Last + 1 },
			func(g *api.Grey) { g.Last = topTick + 1 },
		} {
			l := many(most, 3, 5)
			spoiled(&l[at])
			if e := Check(l); e != api.ErrForm {
				t.Errorf("fault %d at %d: %v", i, at, e)
			}
		}
		if at == 0 {
			continue
		}
		l := many(most, 3, 5)
		l[at].Key = l[at-1].Key
		if e := Check(l); e != api.ErrForm {
			t.Errorf("keys alike at %d: %v", at, e)
		}
		l = many(most, 3, 5)
		l[at], l[at-1] = l[at-1], l[at]
		if e := Check(l); e != api.ErrForm {
			t.Errorf("keys out of order at %d: %v", at, e)
		}
	}
}

// P9.1: keys written out.
func TestKey(t *testing.T) {
	for _, c := range []struct {
		ip       int
		from, to string
		want     string
		e        api.Errno
	}{
		{7, "a@b", "c@d", "7 a@b c@d", api.OK},
		{0, "", "", "0  ", api.OK},
		{0, "a", "", "0 a ", api.OK},
		{0, "", "b", "0  b", api.OK},
		{10, " ", "\x00\xff\r\n", "10   \x00\xff\r\n", api.OK},
		{math.MaxInt, "a", "b", "9223372036854775807 a b", api.OK},
		{-1, "a", "b", "", api.ErrForm},
		{math.MinInt, "a", "b", "", api.ErrForm},
		{-1, "", strings.Repeat("x", topKey), "", api.ErrForm},
	} {
		if got, e := Key(c.ip, c.from, c.to); got != c.want || e != c.e {
			t.Errorf("Key(%d, %q, %q): %q, %v, want %q, %v", c.ip, c.from, shorten(c.to), got, e, c.want, c.e)
		}
	}
}

// P9.1: keys about the greatest length, with what is long on either side.
func TestKeyLengths(t *testing.T) {
	for _, ip := range []int{math.MinInt, -topTick, -1, 0, 9, 10, 99, 1<<32 - 1, topTick, math.MaxInt} {
		rest := topKey - len(fmt.Sprint(ip)) - 2
		for _, n := range []int{0, 1, rest - 1, rest, rest + 1, rest + 2, topKey, 1 << 20} {
			for _, split := range []int{0, 1, n / 2, n} {
				from, to := strings.Repeat("\xf0", min(split, n)), strings.Repeat("y", n-min(split, n))
				want, wantE := fmt.Sprintf("%d %s %s", ip, from, to), api.OK
				if ip < 0 || len(want) > topKey {
					want, wantE = "", api.ErrForm
				}
				if got, e := Key(ip, from, to); got != want || e != wantE {
					t.Errorf("Key(%d, %d bytes, %d bytes): %s, %v, want %s, %v", ip, len(from), len(to), shorten(got), e, shorten(want), wantE)
				}
			}
		}
	}
	key, e := Key(0, "", strings.Repeat("x", topKey-3))
	if len(key) != topKey || e != api.OK || Check([]api.Grey{entry(key, 0, 0, false)}) != api.OK {
		t.Errorf("the longest key: %d bytes, %v", len(key), e)
	}
}

// P9.2: the example of the chapter.
func TestExample(t *testing.T) {
	var l []api.Grey
	for _, c := range []struct {
		now  int
		pass bool
	}{{5, false}, {14, false}, {15, true}} {
		next, pass, e := Ask(l, "b", c.now, 10)
		if pass != c.pass || e != api.OK {
			t.Errorf("at %d: %v, %v", c.now, pass, e)
		}
		l = next
	}
	if !slices.Equal(l, []api.Grey{entry("b", 5, 15, true)}) {
		t.Errorf("%s", show(l))
	}
}

// P9.2: asking written out.
func TestAsk(t *testing.T) {
	one := func(key string, born, last int, pass bool) []api.Grey {
		return []api.Grey{entry(key, born, last, pass)}
	}
	for _, c := range []struct {
		name      string
		l         []api.Grey
		key       string
		now, wait int
		want      []api.Grey
		pass      bool
	}{
		{"a stranger", nil, "a", 5, 3, one("a", 5, 5, false), false},
		{"a stranger at the first tick", nil, "a", 0, 1, one("a", 0, 0, false), false},
		{"a stranger at the last tick", nil, "a", topTick, topTick, one("a", topTick, topTick, false), false},
		{"a stranger who need not wait", nil, "a", 5, 0, one("a", 5, 5, true), true},
		{"one below wait", one("a", 5, 6, false), "a", 14, 10, one("a", 5, 14, false), false},
		{"at wait", one("a", 5, 6, false), "a", 15, 10, one("a", 5, 15, true), true},
		{"above wait", one("a", 5, 6, false), "a", 16, 10, one("a", 5, 16, true), true},
		{"wait counts from Born, not from Last", one("a", 5, 14, false), "a", 15, 10, one("a", 5, 15, true), true},
		{"at Born with no wait", one("a", 5, 6, false), "a", 5, 0, one("a", 5, 6, true), true},
		{"before Born with no wait", one("a", 5, 6, false), "a", 4, 0, one("a", 5, 6, false), false},
		{"before Born", one("a", 5, 6, false), "a", 0, topTick, one("a", 5, 6, false), false},
		{"before Born, passing already", one("a", 5, 6, true), "a", 0, topTick, one("a", 5, 6, true), true},
		{"passing already, with a longer wait", one("a", 5, 6, true), "a", 7, 99, one("a", 5, 7, true), true},
		{"Last at now", one("a", 5, 7, false), "a", 7, 9, one("a", 5, 7, false), false},
		{"Last above now", one("a", 5, 9, false), "a", 7, 2, one("a", 5, 9, true), true},
		{"Last far above now", one("a", 5, topTick, false), "a", 7, 3, one("a", 5, topTick, false), false},
		{"the asked key just young enough", one("a", 5, 9, true), "a", 9 + age, topTick, one("a", 5, 9+age, true), true},
		{"the asked key just too old", one("a", 5, 9, true), "a", 10 + age, 1, one("a", 10+age, 10+age, false), false},
		{"the asked key just too old, no wait", one("a", 5, 9, false), "a", 10 + age, 0, one("a", 10+age, 10+age, true), true},
		{"another just young enough", one("b", 5, 9, true), "a", 9 + age, 1, []api.Grey{entry("a", 9+age, 9+age, false), entry("b", 5, 9, true)}, false},
		{"another just too old", one("b", 5, 9, true), "a", 10 + age, 1, one("a", 10+age, 10+age, false), false},
		{"another at the first tick, at GreyAge", one("b", 0, 0, true), "a", age, 1, []api.Grey{entry("a", age, age, false), entry("b", 0, 0, true)}, false},
		{"another at the first tick, one later", one("b", 0, 0, true), "a", age + 1, 1, one("a", age+1, age+1, false), false},
		{"ahead of all", one("b", 1, 2, true), "a", 3, 1, []api.Grey{entry("a", 3, 3, false), entry("b", 1, 2, true)}, false},
		{"behind all", one("b", 1, 2, true), "c", 3, 1, []api.Grey{entry("b", 1, 2, true), entry("c", 3, 3, false)}, false},
		{"begins another", one("ab", 1, 2, true), "a", 3, 1, []api.Grey{entry("a", 3, 3, false), entry("ab", 1, 2, true)}, false},
		{"begun by another", one("a", 1, 2, true), "ab", 3, 1, []api.Grey{entry("a", 1, 2, true), entry("ab", 3, 3, false)}, false},
		{"no case is made even", one("a", 1, 2, true), "A", 3, 1, []api.Grey{entry("A", 3, 3, false), entry("a", 1, 2, true)}, false},
		{"the asked key is kept, one beside it is not", []api.Grey{entry("a", 1, 2, true), entry("b", 1, 3, true), entry("c", 1, 2, true)}, "b", 3 + age, topTick, one("b", 1, 3+age, true), true},
	} {
		got, pass, e := Ask(c.l, c.key, c.now, c.wait)
		if !slices.Equal(got, c.want) || pass != c.pass || e != api.OK {
			t.Errorf("%s: %s, %v, %v, want %s, %v", c.name, show(got), pass, e, show(c.want), c.pass)
		}
		judgeAsk(t, c.l, c.key, c.now, c.wait)
	}
}

// P9.2: keys of all kinds and lengths, each asked for in a list of the others, and of itself too.
func TestAskOddKeys(t *testing.T) {
	for i, key := range oddKeys() {
		var with, without []api.Grey
		for k, other := range oddKeys() {
			g := entry(other, k, k+1, k%2 == 0)
			with = append(with, g)
			if k != i {
				without = append(without, g)
			}
		}
		slices.SortFunc(with, func(a, b api.Grey) int { return cmp.Compare(a.Key, b.Key) })
		slices.SortFunc(without, func(a, b api.Grey) int { return cmp.Compare(a.Key, b.Key) })
		for _, l := range [][]api.Grey{nil, with, without, with[:most/4], without[:most/4]} {
			judgeAsk(t, l, key, 9, 5)
			judgeAsk(t, l, key, 9, 0)
		}
	}
}

// full answers a full list, of which the first old entries were asked for at the tick before, all others at now or later.
func full(old, before, now int) []api.Grey {
	l := many(most, 0, now)
	for i := range old {
		l[i].Last = before
	}
	return l
}

// P9.2: full lists with none, one or all too old, and the key there or not.
func TestAskFull(t *testing.T) {
	const now = 3 * age
	for _, c := range []struct {
		name string
		l    []api.Grey
		key  string
		n    int    // entries that are answered
		gone string // a key that is not among them
	}{
		{"none too old, a stranger", full(0, 0, now), "a", most, "k00"},
		{"none too old, a known one", full(0, 0, now), "k00", most, "a"},
		{"one just young enough, a stranger", full(1, now-age, now), "a", most, "k00"},
		{"one just young enough, a known one", full(1, now-age, now), "k05", most, "a"},
		{"one too old, a stranger", full(1, now-age-1, now), "a", most, "k00"},
		{"one too old, a known one", full(1, now-age-1, now), "k05", most - 1, "k00"},
		{"one too old, which is asked for", full(1, now-age-1, now), "k00", most, "a"},
		{"two too old, a stranger", full(2, now-age-1, now), "z", most - 1, "k01"},
		{"all too old, a stranger", full(most, now-age-1, now), "a", 1, "k00"},
		{"all too old, a known one", full(most, now-age-1, now), "k07", 1, "k00"},
		{"all just young enough, a stranger", full(most, now-age, now), "z", most, "k00"},
		{"all just young enough, a known one", full(most, now-age, now), "k31", most, "z"},
	} {
		for _, wait := range []int{0, 1, topTick} {
			got := judgeAsk(t, c.l, c.key, now, wait)
			at := slices.IndexFunc(got, func(g api.Grey) bool { return g.Key == c.key })
			gone := slices.IndexFunc(got, func(g api.Grey) bool { return g.Key == c.gone })
			if len(got) != c.n || at < 0 || gone >= 0 {
				t.Errorf("%s: %s", c.name, show(got))
			}
		}
	}
}

// P9.2: who gives way in a full list: the smallest Last wherever it stands, and of several the smallest key.
func TestAskGivesWay(t *testing.T) {
	for first := range most {
		for second := first; second < most; second++ {
			l := many(most, 10, 50)
			l[first].Last, l[second].Last = 49, 49
			l[most-1-first/2].Born = 0
			for _, key := range []string{"a", "k", "k00", "k15x", "k16", "k99", l[first].Key + "+", l[second].Key} {
				got := judgeAsk(t, l, key, 60, 20)
				known := slices.ContainsFunc(l, func(g api.Grey) bool { return g.Key == key })
				kept := slices.ContainsFunc(got, func(g api.Grey) bool { return g.Key == l[first].Key })
				if kept != known || len(got) != most {
					t.Errorf("%d, %d, %q: %s", first, second, key, show(got))
				}
			}
		}
	}
	// One whose Last is above now gives way too, if all others are above it; Born and Pass do not count.
	l := many(most, 70, 90)
	l[3].Last, l[3].Born, l[3].Pass = 80, 80, true
	got := judgeAsk(t, l, "x", 60, 20)
	if len(got) != most || slices.ContainsFunc(got, func(g api.Grey) bool { return g.Key == "k03" }) {
		t.Errorf("%s", show(got))
	}
}

// P9.2: all ticks as now, wait, Born and Last, of the asked key and of another.
func TestAskTicks(t *testing.T) {
	for _, born := range ticks() {
		for _, last := range ticks() {
			if last < born {
				continue
			}
			l := []api.Grey{entry("k", born, last, false)}
			both := []api.Grey{entry("a", born, last, true), entry("k", last, last, true)}
			for _, d := range []int{-2, -1, 0, 1, 2} {
				for _, now := range append(ticks(), born+d, last+d, last+age+d) {
					for _, wait := range append(ticks(), now-born-1, now-born, now-born+1) {
						judgeAsk(t, l, "k", now, wait)
						judgeAsk(t, l, "b", now, wait)
						judgeAsk(t, both, "k", now, wait)
					}
				}
			}
		}
	}
}

// P9.2: a list that is not valid is refused, whatever else is asked.
func TestAskWrongLists(t *testing.T) {
	for _, c := range wrongLists() {
		for _, key := range append(wrongKeys(), "a", "k05", "z") {
			refused(t, c.name, c.l, key, 3, 2)
			refused(t, c.name, c.l, key, 0, 0)
			refused(t, c.name, c.l, key, topTick, topTick)
			refused(t, c.name, c.l, key, -1, math.MaxInt)
		}
		judgeAsk(t, c.l, "a", 3, 2)
	}
}

// P9.2: wrong keys and ticks are refused, alone and together.
func TestAskWrongArguments(t *testing.T) {
	good := many(most, 1, 2)
	for _, l := range [][]api.Grey{nil, many(1, 1, 2), good} {
		for _, key := range wrongKeys() {
			refused(t, "key", l, key, 3, 2)
			for _, tick := range wrongTicks() {
				refused(t, "key and now", l, key, tick, 2)
				refused(t, "key and wait", l, key, 3, tick)
			}
		}
		for _, tick := range wrongTicks() {
			for _, key := range []string{"a", "k00"} {
				refused(t, "now", l, key, tick, 2)
				refused(t, "wait", l, key, 3, tick)
				for _, other := range append(ticks(), wrongTicks()...) {
					refused(t, "now", l, key, tick, other)
					refused(t, "wait", l, key, other, tick)
				}
				judgeAsk(t, l, key, tick, 2)
				judgeAsk(t, l, key, 3, tick)
			}
		}
	}
}

// R2: what is answered, and what is appended to it, changes neither the list that was handed in nor another answer.
func TestOwnMemory(t *testing.T) {
	for _, c := range []struct {
		name string
		l    []api.Grey
		key  string
		now  int
	}{
		{"a known one", many(5, 1, 2), "k02", 3},
		{"a known one, already at now", many(5, 1, 3), "k02", 3},
		{"a stranger", many(5, 1, 2), "k02x", 3},
		{"a stranger behind all", many(5, 1, 2), "z", 3},
		{"a full list", many(most, 1, 2), "k02x", 3},
		{"all too old", many(most, 1, 2), "z", 3 + age},
	} {
		in, was := roomy(c.l), roomy(c.l)
		first, _, _ := Ask(in, c.key, c.now, 1)
		second, _, _ := Ask(in, c.key, c.now, 1)
		want := slices.Clone(second)
		_ = append(first, entry("more", 1, 1, true))
		spoil(first)
		if !slices.Equal(second, want) {
			t.Errorf("%s: another answer is changed: %s", c.name, show(second))
		}
		judgeSame(t, c.name, in, was)
		spoil(in)
		if !slices.Equal(second, want) {
			t.Errorf("%s: the answer still hangs on the list that was handed in: %s", c.name, show(second))
		}
	}
}

// P9.3: a key that comes again after wait ticks passes, and not before.
func TestComesAgain(t *testing.T) {
	for _, born := range []int{0, 1, 77, age, topTick - 2*age} {
		for _, wait := range []int{1, 2, 9, age - 1, age} {
			l, pass, e := Ask(nil, "k", born, wait)
			if pass || e != api.OK {
				t.Errorf("%d, %d: %v, %v", born, wait, pass, e)
			}
			for _, early := range []int{0, 1, wait / 2, wait - 1} {
				if _, pass, e := Ask(l, "k", born+min(early, wait-1), wait); pass || e != api.OK {
					t.Errorf("born %d, wait %d: after %d: %v, %v", born, wait, early, pass, e)
				}
			}
			if _, pass, e := Ask(l, "k", born+wait, wait); !pass || e != api.OK {
				t.Errorf("born %d, wait %d: %v, %v", born, wait, pass, e)
			}
		}
	}
}

// P9.3: it goes on to pass as long as it is asked for within GreyAge ticks, with fewer others than would crowd it out.
func TestPassesOn(t *testing.T) {
	now := 100
	l, _, _ := Ask(nil, "k", now, 10)
	now += 10
	for step, gap := range []int{0, 1, age - 1, age, 5, age, age} {
		now += gap
		next, pass, e := Ask(l, "k", now, 10+step*topTick/8)
		if !pass || e != api.OK {
			t.Fatalf("step %d: %v, %v", step, pass, e)
		}
		l = next
		for i := range most - 1 {
			l, _, e = Ask(l, fmt.Sprintf("other%d-%d", step, i), now, 1)
			if e != api.OK {
				t.Fatalf("step %d: %v", step, e)
			}
		}
	}
	if _, pass, _ := Ask(l, "k", now+age+1, 10); pass {
		t.Errorf("it passes though it was asked for too late")
	}
}

// P9.3: a wait above GreyAge is met by asking in time.
func TestLongWait(t *testing.T) {
	const wait = 3*age + 1
	l, _, _ := Ask(nil, "k", 0, wait)
	for _, now := range []int{age, 2 * age, 3 * age} {
		next, pass, e := Ask(l, "k", now, wait)
		if pass || e != api.OK {
			t.Errorf("at %d: %v, %v", now, pass, e)
		}
		l = next
	}
	if _, pass, e := Ask(l, "k", wait, wait); !pass || e != api.OK {
		t.Errorf("at %d: %v, %v", wait, pass, e)
	}
}

// P9.2, P9.3: long runs of one list after the other, with few keys and with more than it holds.
func TestRandom(t *testing.T) {
	r := rand.New(rand.NewSource(9))
	for range 60 {
		var l []api.Grey
		now, keys, stride := r.Intn(2*age), 1+r.Intn(2*most), 1+r.Intn(3*age/most)
		for range 400 {
			key := fmt.Sprintf("%d", r.Intn(keys))
			wait := r.Intn(1 + r.Intn(2*age))
			switch r.Intn(12) {
			case 0:
				wait = 0
			case 1:
				now = max(0, now-r.Intn(age))
			case 2:
				now += age + r.Intn(3) - 1
			default:
				now += r.Intn(stride)
			}
			l = judgeAsk(t, l, key, now, wait)
		}
		if t.Failed() {
			return
		}
	}
}

// The way of all parsers: a panic that is no wrong input goes on.
func TestOtherPanicsGoOn(t *testing.T) {
	for _, c := range []struct {
		name string
		p    any
	}{{"a text", "mistake"}, {"an error number", api.ErrForm}} {
		func() {
			defer func() {
				if p := recover(); p != c.p {
					t.Errorf("%s: %v came out of catch", c.name, p)
				}
			}()
			catch(func() { panic(c.p) })
		}()
	}
	if e := catch(func() { panic(fault{api.ErrForm}) }); e != api.ErrForm {
		t.Errorf("a fault with ErrForm: %v", e)
	}
	if e := catch(func() {}); e != api.OK {
		t.Errorf("no panic: %v", e)
	}
}
