package real

import (
	"math"
	"math/big"
	"math/rand"
	"regexp"
	"slices"
	"strconv"
	"strings"
	"testing"

	"pouch/api"
)

const (
	small     = 0x1p-1074
	normal    = 0x1p-1022
	mostSmall = normal - small
)

// nans are NaNs of both signs, quiet and not, with the least and the greatest fractions.
func nans() []float64 {
	var l []float64
	for _, n := range []uint64{
		0x7ff8000000000001, 0x7ff8000000000000, 0x7ff0000000000001, 0x7fffffffffffffff, 0x7ff7ffffffffffff,
		0xfff8000000000001, 0xfff8000000000000, 0xfff0000000000001, 0xffffffffffffffff, 0xfff7ffffffffffff,
	} {
		l = append(l, math.Float64frombits(n))
	}
	return append(l, math.NaN(), -math.NaN())
}

// above are floats that rise from +0 to +Inf.
func above() []float64 {
	return []float64{
		0, small, 2 * small, 3 * small, 0x1p-1023, mostSmall - small, mostSmall, normal, normal + small, 2 * normal,
		0x1p-60, 0.1, 0.5, math.Nextafter(1, 0), 1, math.Nextafter(1, 2), 1.5, 2, 3, 6,
		1<<52 - 0.5, 1 << 52, 1<<53 - 1, 1 << 53, 1<<53 + 2, 1 << 62, 1 << 63, 1 << 64, 1e300,
		0x1p1023, math.Nextafter(math.MaxFloat64, 0), math.MaxFloat64, math.Inf(1),
	}
}

// rising are floats in the total order, the last one NaN.
func rising() []float64 {
	var l []float64
	for _, x := range above() {
		l = append(l, -x)
	}
	l[0] = math.Copysign(0, -1)
	slices.Reverse(l)
	return append(append(l, above()...), math.NaN())
}

func minusZero() float64 { return math.Copysign(0, -1) }

// equal holds two floats against each other bit by bit, but takes all NaNs as one.
func equal(a, b float64) bool {
	return a != a && b != b || math.Float64bits(a) == math.Float64bits(b)
}

// wantCmp tells by the words of the chapter how a and b stand in the total order.
func wantCmp(a, b float64) int {
	switch {
	case a != a && b != b:
		return 0
	case a != a:
		return 1
	case b != b:
		return -1
	case a < b:
		return -1
	case a > b:
		return 1
	case math.Signbit(a) == math.Signbit(b):
		return 0
	case math.Signbit(a):
		return -1
	}
	return 1
}

func wantClass(x float64) int {
	switch {
	case x != x:
		return 0
	case x < -math.MaxFloat64:
		return 1
	case x <= -normal:
		return 2
	case x < 0:
		return 3
	case x > math.MaxFloat64:
		return 8
	case x >= normal:
		return 7
	case x > 0:
		return 6
	case math.Signbit(x):
		return 4
	}
	return 5
}

func wantClamp(x, low, high float64) float64 {
	switch {
	case x != x || low != low || high != high:
		return math.NaN()
	case wantCmp(x, low) < 0 || wantCmp(low, high) > 0:
		return low
	case wantCmp(x, high) > 0:
		return high
	}
	return x
}

// wantBits writes the number of x by its representation's bits, one by one.
func wantBits(x float64) uint64 {
	if x != x {
		return 0xffffffffffffffff
	}
	n := math.Float64bits(x)
	if x < 0 || x == 0 && 1/x < 0 {
		return 0xffffffffffffffff - n
	}
	return n + 0x8000000000000000
}

// wantText takes the library's m and e, and halves m until it is odd.
func wantText(x float64) string {
	switch {
	case x != x:
		return "nan"
	case x == math.Inf(-1):
		return "-inf"
	case x == math.Inf(1):
		return "+inf"
	case x == 0 && 1/x < 0:
		return "-0"
	case x == 0:
		return "0"
	}
	whole, power, _ := strings.Cut(strconv.FormatFloat(x, 'b', -1, 64), "p")
	m, _ := strconv.ParseInt(whole, 10, 64)
	e, _ := strconv.Atoi(power)
	for ; m%2 == 0; e++ {
		m /= 2
	}
	return strconv.FormatInt(m, 10) + "p" + strconv.Itoa(e)
}

var productForm = regexp.MustCompile(`\A(-?[1-9][0-9]*)p(0|-?[1-9][0-9]*)\z`)

// wantParse reads s by the form of the chapter, and tells by a number of great precision whether it is a float.
func wantParse(s string) (float64, api.Errno) {
	for _, x := range []float64{math.NaN(), math.Inf(-1), math.Inf(1), minusZero(), 0} {
		if s == wantText(x) {
			return x, api.OK
		}
	}
	found := productForm.FindStringSubmatch(s)
	if found == nil || len(found[1]) > 30 || len(found[2]) > 9 {
		return 0, api.ErrSyntax
	}
	m, _ := new(big.Int).SetString(found[1], 10)
	e, _ := strconv.Atoi(found[2])
	if m.Bit(0) == 0 {
		return 0, api.ErrSyntax
	}
	exact := new(big.Float).SetPrec(200).SetInt(m)
	x, how := exact.SetMantExp(exact, e).Float64()
	if how != big.Exact {
		return 0, api.ErrSyntax
	}
	return x, api.OK
}

// judge holds all that is asked of one float against the chapter.
func judge(t *testing.T, x float64) {
	t.Helper()
	if got, want := Class(x), wantClass(x); got != want {
		t.Errorf("Class(%v): %d, want %d", x, got, want)
	}
	if got, want := Bits(x), wantBits(x); got != want {
		t.Errorf("Bits(%v): %x, want %x", x, got, want)
	}
	if got := Of(Bits(x)); !equal(got, x) {
		t.Errorf("Of(Bits(%v)): %v", x, got)
	}
	got, want := Text(x), wantText(x)
	if got != want {
		t.Errorf("Text(%v): %q, want %q", x, got, want)
	}
	if back, e := Parse(want); !equal(back, x) || e != api.OK {
		t.Errorf("Parse(%q): %v, %v, want %v", want, back, e, x)
	}
}

func judgePair(t *testing.T, a, b float64) {
	t.Helper()
	want := wantCmp(a, b)
	if got := Cmp(a, b); got != want {
		t.Errorf("Cmp(%v, %v): %d, want %d", a, b, got, want)
	}
	if got := Same(a, b); got != (want == 0) {
		t.Errorf("Same(%v, %v): %v", a, b, got)
	}
	x, y := Bits(a), Bits(b)
	if x < y != (want < 0) || x > y != (want > 0) {
		t.Errorf("Bits of %v and %v: %x, %x, want %d", a, b, x, y, want)
	}
}

func judgeClamp(t *testing.T, x, low, high float64) {
	t.Helper()
	if got, want := Clamp(x, low, high), wantClamp(x, low, high); !equal(got, want) {
		t.Errorf("Clamp(%v, %v, %v): %v, want %v", x, low, high, got, want)
	}
}

func judgeText(t *testing.T, s string) {
	t.Helper()
	want, wantE := wantParse(s)
	got, e := Parse(s)
	if !equal(got, want) || e != wantE {
		t.Errorf("Parse(%.80q): %v, %v, want %v, %v", s, got, e, want, wantE)
	}
	if e == api.OK && Text(got) != s {
		t.Errorf("%.80q does not come back: %q", s, Text(got))
	}
}

// refuse asks for ErrSyntax, with +0 beside it.
func refuse(t *testing.T, name, s string) {
	t.Helper()
	if got, e := Parse(s); math.Float64bits(got) != 0 || e != api.ErrSyntax {
		t.Errorf("%s: Parse(%.80q): %v, %v", name, s, got, e)
	}
	judgeText(t, s)
}

// P6.1, P6.5: every edge against every other, by their places in the total order.
func TestOrder(t *testing.T) {
	l := rising()
	for i, a := range l {
		for k, b := range l {
			want := 0
			if i < k {
				want = -1
			} else if i > k {
				want = 1
			}
			if got := Cmp(a, b); got != want {
				t.Errorf("Cmp(%v, %v): %d, want %d", a, b, got, want)
			}
			if got := Same(a, b); got != (i == k) {
				t.Errorf("Same(%v, %v): %v", a, b, got)
			}
			judgePair(t, a, b)
		}
	}
}

// P6.1, P6.4, P6.5: all NaNs are one, above +Inf, whatever their bits are.
func TestNaNs(t *testing.T) {
	for _, a := range nans() {
		for _, b := range nans() {
			if Cmp(a, b) != 0 || !Same(a, b) {
				t.Errorf("%x and %x are not one", math.Float64bits(a), math.Float64bits(b))
			}
		}
		for _, x := range rising() {
			judgePair(t, a, x)
			judgePair(t, x, a)
		}
		if Bits(a) != math.MaxUint64 || Class(a) != 0 || Text(a) != "nan" {
			t.Errorf("%x: %x, %d, %q", math.Float64bits(a), Bits(a), Class(a), Text(a))
		}
		if got := Of(Bits(a)); math.Float64bits(got) != math.Float64bits(Of(math.MaxUint64)) {
			t.Errorf("%x: Of(Bits) is another NaN: %x", math.Float64bits(a), math.Float64bits(got))
		}
		judge(t, a)
	}
}

// P6.1: the classes at their borders.
func TestClass(t *testing.T) {
	for _, c := range []struct {
		name  string
		x     float64
		want  int
		minus int
	}{
		{"a NaN", math.NaN(), 0, 0},
		{"an infinity", math.Inf(1), 8, 1},
		{"the greatest", math.MaxFloat64, 7, 2},
		{"one", 1, 7, 2},
		{"above the least normal", normal + small, 7, 2},
		{"the least normal", normal, 7, 2},
		{"the greatest that is not normal", mostSmall, 6, 3},
		{"one that is not normal", 0x1p-1050, 6, 3},
		{"the least", small, 6, 3},
		{"a zero", 0, 5, 4},
	} {
		if got := Class(c.x); got != c.want {
			t.Errorf("%s: Class: %d, want %d", c.name, got, c.want)
		}
		if got := Class(math.Copysign(c.x, -1)); got != c.minus {
			t.Errorf("%s, below: Class: %d, want %d", c.name, got, c.minus)
		}
	}
}

// P6.1: the least and the greatest of lists.
func TestLeastMost(t *testing.T) {
	nan, inf, minus := math.NaN(), math.Inf(1), math.Inf(-1)
	odd := math.Float64frombits(0xfff0000000000001)
	for _, c := range []struct {
		name        string
		l           []float64
		least, most float64
	}{
		{"no list", nil, nan, nan},
		{"an empty list", []float64{}, nan, nan},
		{"a NaN", []float64{nan}, nan, nan},
		{"NaNs", nans(), nan, nan},
		{"one", []float64{3}, 3, 3},
		{"one below", []float64{-3}, -3, -3},
		{"a NaN ahead", []float64{nan, 3}, 3, 3},
		{"a NaN behind", []float64{3, nan}, 3, 3},
		{"a NaN with the sign bit ahead", []float64{odd, -3, 3}, -3, 3},
		{"a NaN with the sign bit behind", []float64{-3, 3, odd}, -3, 3},
		{"a NaN between", []float64{2, nan, 1}, 1, 2},
		{"rising", []float64{1, 2, 3}, 1, 3},
		{"falling", []float64{3, 2, 1}, 1, 3},
		{"one twice", []float64{2, 2}, 2, 2},
		{"+0 and -0", []float64{0, minusZero()}, minusZero(), 0},
		{"-0 and +0", []float64{minusZero(), 0}, minusZero(), 0},
		{"+0", []float64{0, 0}, 0, 0},
		{"-0", []float64{minusZero(), minusZero()}, minusZero(), minusZero()},
		{"the smallest beside zeros", []float64{small, 0, minusZero(), -small}, -small, small},
		{"infinities", []float64{inf, minus}, minus, inf},
		{"infinities, the other way", []float64{minus, inf}, minus, inf},
		{"-Inf and NaN", []float64{nan, minus, nan}, minus, minus},
		{"+Inf and NaN", []float64{nan, inf, nan}, inf, inf},
		{"all edges", rising(), minus, inf},
	} {
		before := slices.Clone(c.l)
		if got := Least(c.l); !equal(got, c.least) {
			t.Errorf("%s: Least: %v, want %v", c.name, got, c.least)
		}
		if got := Most(c.l); !equal(got, c.most) {
			t.Errorf("%s: Most: %v, want %v", c.name, got, c.most)
		}
		if !slices.EqualFunc(c.l, before, equal) {
			t.Errorf("%s: the list is changed: %v", c.name, c.l)
		}
	}
}

// P6.1: all pairs of edges, and every two beside a NaN, as lists.
func TestLeastMostOfPairs(t *testing.T) {
	for _, a := range rising() {
		for _, b := range rising() {
			least, most := a, b
			if wantCmp(a, b) > 0 {
				least, most = b, a
			}
			if most != most { // then least is the other one, or NaN too
				most = least
			}
			for _, l := range [][]float64{{a, b}, {math.NaN(), a, b}, {a, math.NaN(), b}, {a, b, math.NaN()}, {a, b, a}} {
				if got := Least(l); !equal(got, least) {
					t.Errorf("Least(%v): %v, want %v", l, got, least)
				}
				if got := Most(l); !equal(got, most) {
					t.Errorf("Most(%v): %v, want %v", l, got, most)
				}
			}
		}
	}
}

// P6.2: cases written out.
func TestClamp(t *testing.T) {
	nan, inf, minus := math.NaN(), math.Inf(1), math.Inf(-1)
	for _, c := range []struct {
		name               string
		x, low, high, want float64
	}{
		{"between", 2, 1, 3, 2},
		{"below", 0, 1, 3, 1},
		{"above", 4, 1, 3, 3},
		{"at the low end", 1, 1, 3, 1},
		{"at the high end", 3, 1, 3, 3},
		{"one value", 5, 2, 2, 2},
		{"low above high, x between", 2, 3, 1, 3},
		{"low above high, x below", 0, 3, 1, 3},
		{"low above high, x above", 4, 3, 1, 3},
		{"NaN", nan, 1, 3, nan},
		{"low NaN", 2, nan, 3, nan},
		{"high NaN", 2, 1, nan, nan},
		{"high NaN, x below", 0, 1, nan, nan},
		{"low NaN, x above", 4, nan, 3, nan},
		{"NaN, low above high", nan, 3, 1, nan},
		{"all NaN", nan, nan, nan, nan},
		{"-0 from +0 on", minusZero(), 0, 1, 0},
		{"+0 up to -0", 0, -1, minusZero(), minusZero()},
		{"+0 from -0 to +0", 0, minusZero(), 0, 0},
		{"-0 from -0 to +0", minusZero(), minusZero(), 0, minusZero()},
		{"+0 and the zeros the wrong way round", 0, 0, minusZero(), 0},
		{"-0 and the zeros the wrong way round", minusZero(), 0, minusZero(), 0},
		{"1 and the zeros the wrong way round", 1, 0, minusZero(), 0},
		{"between infinities", 7, minus, inf, 7},
		{"-Inf between infinities", minus, minus, inf, minus},
		{"+Inf between infinities", inf, minus, inf, inf},
		{"infinities the wrong way round", 7, inf, minus, inf},
		{"-Inf", minus, 0, 1, 0},
		{"+Inf", inf, 0, 1, 1},
		{"low +Inf", 1, inf, inf, inf},
		{"high -Inf", 1, minus, minus, minus},
		{"below the least normal", mostSmall, normal, 1, normal},
		{"the smallest above a zero", small, minusZero(), 0, 0},
	} {
		if got := Clamp(c.x, c.low, c.high); !equal(got, c.want) {
			t.Errorf("%s: Clamp(%v, %v, %v): %v, want %v", c.name, c.x, c.low, c.high, got, c.want)
		}
		judgeClamp(t, c.x, c.low, c.high)
	}
}

// P6.2: every three edges, and NaNs of all bits in every place.
func TestClampOfEdges(t *testing.T) {
	for _, x := range rising() {
		for _, low := range rising() {
			for _, high := range rising() {
				judgeClamp(t, x, low, high)
			}
			for _, nan := range nans() {
				judgeClamp(t, nan, x, low)
				judgeClamp(t, x, nan, low)
				judgeClamp(t, x, low, nan)
			}
		}
	}
}

// P6.3, P6.5: texts written out, there and back.
func TestTexts(t *testing.T) {
	for _, c := range []struct {
		x    float64
		want string
	}{
		{math.NaN(), "nan"},
		{math.Inf(-1), "-inf"},
		{math.Inf(1), "+inf"},
		{minusZero(), "-0"},
		{0, "0"},
		{1, "1p0"},
		{-1, "-1p0"},
		{2, "1p1"},
		{6, "3p1"},
		{-6, "-3p1"},
		{0.5, "1p-1"},
		{-0.75, "-3p-2"},
		{10, "5p1"},
		{1024, "1p10"},
		{0.1, "3602879701896397p-55"},
		{1 << 53, "1p53"},
		{1<<53 - 1, "9007199254740991p0"},
		{-(1<<53 - 1), "-9007199254740991p0"},
		{1 << 62, "1p62"},
		{small, "1p-1074"},
		{-small, "-1p-1074"},
		{2 * small, "1p-1073"},
		{3 * small, "3p-1074"},
		{mostSmall, "4503599627370495p-1074"},
		{-mostSmall, "-4503599627370495p-1074"},
		{normal, "1p-1022"},
		{-normal, "-1p-1022"},
		{normal + small, "4503599627370497p-1074"},
		{2*normal - small, "9007199254740991p-1074"},
		{2*normal + 2*small, "4503599627370497p-1073"},
		{0x1p1023, "1p1023"},
		{0x1.8p1023, "3p1022"},
		{math.MaxFloat64, "9007199254740991p971"},
		{-math.MaxFloat64, "-9007199254740991p971"},
	} {
		if got := Text(c.x); got != c.want {
			t.Errorf("Text(%v): %q, want %q", c.x, got, c.want)
		}
		if got, e := Parse(c.want); !equal(got, c.x) || e != api.OK {
			t.Errorf("Parse(%q): %v, %v, want %v", c.want, got, e, c.x)
		}
		judge(t, c.x)
	}
}

// P6.3, R4: what is no float's text.
func TestNoTexts(t *testing.T) {
	digits := strings.Repeat("1", 400)
	zeros := strings.Repeat("0", 400)
	for _, c := range []struct{ name, s string }{
		{"nothing", ""},
		{"an even m", "2p0"},
		{"an even m of a greater one", "6p0"},
		{"an even m below 0", "-4p-1"},
		{"an even m of 54 bits", "9007199254740992p0"},
		{"m 0", "0p0"},
		{"m 0 below 0", "-0p0"},
		{"m 0 and a power", "0p5"},
		{"a needless 0 ahead of m", "01p0"},
		{"a needless 0 ahead of m below 0", "-03p1"},
		{"many needless 0s ahead of m", zeros + "1p0"},
		{"a needless 0 ahead of e", "1p01"},
		{"a needless 0 ahead of e below 0", "1p-01"},
		{"two 0s for e", "1p00"},
		{"many needless 0s ahead of e", "1p" + zeros + "1"},
		{"a plus sign", "+1p0"},
		{"a plus sign ahead of e", "1p+1"},
		{"a plus sign ahead of e of 0", "1p+0"},
		{"-0 for e", "1p-0"},
		{"a plus sign at 0", "+0"},
		{"two minus signs", "--1p0"},
		{"two minus signs ahead of e", "1p--1"},
		{"a minus sign behind the plus", "+-1p0"},
		{"a minus sign alone", "-"},
		{"a plus sign alone", "+"},
		{"no p", "1"},
		{"no p, a minus sign", "1-1"},
		{"no p below 0", "-1"},
		{"two p", "1p0p0"},
		{"two p beside each other", "1pp0"},
		{"p at the end", "1p0p"},
		{"p at the beginning", "p1p0"},
		{"no m", "p1"},
		{"no m below 0", "-p1"},
		{"no e", "1p"},
		{"no e but its sign", "1p-"},
		{"p alone", "p"},
		{"a minus sign and p", "-p"},
		{"a blank ahead", " 1p0"},
		{"a blank behind", "1p0 "},
		{"a blank ahead of p", "1 p0"},
		{"a blank behind p", "1p 0"},
		{"a blank behind the sign", "- 1p0"},
		{"a blank alone", " "},
		{"a line's end", "1p0\n"},
		{"a byte 0", "1p0\x00"},
		{"a capital P", "1P0"},
		{"capital NAN", "NAN"},
		{"NaN", "NaN"},
		{"-INF", "-INF"},
		{"+Inf", "+Inf"},
		{"inf without a sign", "inf"},
		{"infinity", "+infinity"},
		{"nan with a sign", "-nan"},
		{"nan with a plus sign", "+nan"},
		{"nan and more", "nan0"},
		{"a part of nan", "na"},
		{"two 0s", "00"},
		{"-00", "-00"},
		{"a blank at 0", "0 "},
		{"the odd m of 54 bits", "9007199254740993p0"},
		{"the greatest odd m of 54 bits", "18014398509481983p0"},
		{"m beyond 64 bits", "18446744073709551617p0"},
		{"m of all 64 bits", "18446744073709551615p0"},
		{"an m too long for the least power", "9007199254740993p-1074"},
		{"m of very many digits", digits + "p0"},
		{"m of very many digits, small", digits + "p-1329"},
		{"e too great", "1p1024"},
		{"e too great for 3", "3p1023"},
		{"e too great for the greatest m", "9007199254740991p972"},
		{"e too small", "1p-1075"},
		{"e too small for 3", "3p-1075"},
		{"e too small for the greatest m", "9007199254740991p-1075"},
		{"e far too great", "1p100000"},
		{"e far too small", "1p-100000"},
		{"e of 2^32", "1p4294967296"},
		{"e of -2^32", "1p-4294967296"},
		{"e of 2^63 - 1", "1p9223372036854775807"},
		{"e of 2^63", "1p9223372036854775808"},
		{"e of -2^63", "1p-9223372036854775808"},
		{"e of 2^64", "1p18446744073709551616"},
		{"e of very many digits", "1p" + digits},
		{"e of very many digits below 0", "1p-" + digits},
		{"a fraction", "1.5p0"},
		{"a fraction of e", "1p0.0"},
		{"a power of ten", "1e0p0"},
		{"hexadecimal", "0x1p0"},
		{"hexadecimal e", "1p0x1"},
		{"binary", "0b1p0"},
		{"an underscore", "1_1p0"},
		{"an underscore in e", "1p1_0"},
		{"a letter", "1ap0"},
		{"digits beyond ASCII", "\u0661p0"},
		{"a p beyond ASCII", "1\uff500"},
		{"no text of UTF-8", "1p0\xff"},
	} {
		refuse(t, c.name, c.s)
	}
}

// P6.3: all short strings of the bytes of texts and some others.
func TestShortTexts(t *testing.T) {
	var grow func(s string)
	grow = func(s string) {
		judgeText(t, s)
		if len(s) == 5 {
			return
		}
		for _, c := range []byte("0137+-p _P") {
			grow(s + string(c))
		}
	}
	grow("")
}

// P6.3: every byte in every place of a text, put in and put over.
func TestBytesOfTexts(t *testing.T) {
	for _, s := range []string{"nan", "-inf", "+inf", "-0", "0", "1p0", "-3p1", "5p-10", "9007199254740991p971", "-4503599627370495p-1074"} {
		for i := range len(s) + 1 {
			for c := range 256 {
				judgeText(t, s[:i]+string([]byte{byte(c)})+s[i:])
				if i < len(s) {
					judgeText(t, s[:i]+string([]byte{byte(c)})+s[i+1:])
				}
			}
			judgeText(t, s[:i])
			judgeText(t, s[i:])
		}
	}
}

// P6.3: an m of every length, at the powers where its floats begin and end.
func TestPowers(t *testing.T) {
	for n := 1; n <= 70; n++ {
		top := new(big.Int).Lsh(big.NewInt(1), uint(n-1))
		for _, m := range []*big.Int{
			new(big.Int).SetBit(top, 0, 1),
			new(big.Int).Sub(new(big.Int).Lsh(top, 1), big.NewInt(1)),
			top,
		} {
			for _, at := range []int{-1074, -1074 - n, -1022, -1022 - n, 0, 971, 1024, 1024 - n, 1023} {
				for e := at - 3; e <= at+3; e++ {
					judgeText(t, m.String()+"p"+strconv.Itoa(e))
					judgeText(t, "-"+m.String()+"p"+strconv.Itoa(e))
				}
			}
		}
	}
}

// P6.4: numbers at their borders, written out.
func TestNumbers(t *testing.T) {
	nan := math.NaN()
	for _, c := range []struct {
		name string
		n    uint64
		want float64
	}{
		{"0", 0, nan},
		{"1", 1, nan},
		{"below that of -Inf", 0x000ffffffffffffe, nan},
		{"that of -Inf", 0x000fffffffffffff, math.Inf(-1)},
		{"above that of -Inf", 0x0010000000000000, -math.MaxFloat64},
		{"that of -1", 0x400fffffffffffff, -1},
		{"that of the least normal, below 0", 0x7fefffffffffffff, -normal},
		{"that of the greatest not normal, below 0", 0x7ff0000000000000, -mostSmall},
		{"2^63 - 2", 1<<63 - 2, -small},
		{"2^63 - 1", 1<<63 - 1, minusZero()},
		{"2^63", 1 << 63, 0},
		{"2^63 + 1", 1<<63 + 1, small},
		{"that of the greatest not normal", 0x800fffffffffffff, mostSmall},
		{"that of the least normal", 0x8010000000000000, normal},
		{"that of 1", 0xbff0000000000000, 1},
		{"below that of +Inf", 0xffefffffffffffff, math.MaxFloat64},
		{"that of +Inf", 0xfff0000000000000, math.Inf(1)},
		{"above that of +Inf", 0xfff0000000000001, nan},
		{"between +Inf and NaN", 0xfff8000000000001, nan},
		{"2^64 - 2", 1<<64 - 2, nan},
		{"2^64 - 1", 1<<64 - 1, nan},
	} {
		if got := Of(c.n); !equal(got, c.want) {
			t.Errorf("%s: Of(%x): %v, want %v", c.name, c.n, got, c.want)
		}
		if got := Bits(c.want); c.want == c.want && got != c.n {
			t.Errorf("%s: Bits(%v): %x, want %x", c.name, c.want, got, c.n)
		}
		judgeNumber(t, c.n)
	}
}

// judgeNumber asks that n is the number of what Of answers, or is none's.
func judgeNumber(t *testing.T, n uint64) {
	t.Helper()
	x := Of(n)
	some := n >= 0x000fffffffffffff && n <= 0xfff0000000000000
	if some == (x != x) || some && Bits(x) != n {
		t.Errorf("Of(%x): %v, of number %x", n, x, Bits(x))
	}
	if x != x && math.Float64bits(x) != math.Float64bits(Of(math.MaxUint64)) {
		t.Errorf("Of(%x): another NaN: %x", n, math.Float64bits(x))
	}
}

// P6.4, P6.5: floats that follow one another have numbers that do, over the borders, too.
func TestNumbersFollow(t *testing.T) {
	for _, x := range rising() {
		if x != x || x == math.Inf(1) {
			continue
		}
		next := math.Nextafter(x, math.Inf(1))
		switch {
		case x == 0 && math.Signbit(x):
			next = 0
		case next == 0:
			next = minusZero()
		}
		if Bits(next) != Bits(x)+1 || !equal(Of(Bits(x)+1), next) {
			t.Errorf("%v, %v: %x, %x", x, next, Bits(x), Bits(next))
		}
	}
}

// P6.1, P6.3 to P6.5: every exponent, with fractions of all lengths and both signs.
func TestAllExponents(t *testing.T) {
	for field := range uint64(1 << 11) {
		for k := range 53 {
			for _, fraction := range []uint64{0, 1, 1<<k - 1, 1 << k, 1<<52 - 1<<k, 1<<52 - 1 - 1<<k} {
				n := field<<52 | fraction&(1<<52-1)
				judge(t, math.Float64frombits(n))
				judge(t, math.Float64frombits(n|1<<63))
			}
		}
	}
}

// P6.1 to P6.5: floats of any bits.
func TestAnyBits(t *testing.T) {
	r := rand.New(rand.NewSource(6))
	edges := rising()
	some := func() float64 {
		if r.Intn(4) == 0 {
			return edges[r.Intn(len(edges))]
		}
		return math.Float64frombits(r.Uint64())
	}
	for range 100000 {
		a, b, c := some(), some(), some()
		judge(t, a)
		judgePair(t, a, b)
		judgePair(t, a, math.Nextafter(a, b))
		judgeClamp(t, a, b, c)
		judgeNumber(t, r.Uint64())
	}
}

// P6.1: long lists of any floats.
func TestAnyLists(t *testing.T) {
	r := rand.New(rand.NewSource(61))
	edges := rising()
	for range 2000 {
		var l, numbers []float64
		for range r.Intn(40) {
			x := math.Float64frombits(r.Uint64())
			if r.Intn(2) == 0 {
				x = edges[r.Intn(len(edges))]
			}
			l = append(l, x)
			if x == x {
				numbers = append(numbers, x)
			}
		}
		least, most := math.NaN(), math.NaN()
		if len(numbers) > 0 {
			least, most = slices.MinFunc(numbers, wantCmp), slices.MaxFunc(numbers, wantCmp)
		}
		if got := Least(l); !equal(got, least) {
			t.Errorf("Least(%v): %v, want %v", l, got, least)
		}
		if got := Most(l); !equal(got, most) {
			t.Errorf("Most(%v): %v, want %v", l, got, most)
		}
	}
}
