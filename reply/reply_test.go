package reply

import (
	"fmt"
	"slices"
	"strings"
	"testing"

	"pouch/api"
)

func x(n int) string { return strings.Repeat("x", n) }

// times is a list of n lines s.
func times(n int, s string) []string { return slices.Repeat([]string{s}, n) }

func same(a, b api.Reply) bool {
	return a.Code == b.Code && slices.Equal(a.Lines, b.Lines)
}

// show tells a list of lines, long ones by their beginning.
func show(l []string) string {
	out := fmt.Sprintf("%d lines", len(l))
	for _, s := range l {
		out += fmt.Sprintf(" %.12q(%d)", s, len(s))
	}
	return out
}

// isText tells by the words of the chapter what may stand in a line.
func isText(s string) bool {
	return len(s) <= 506 && !slices.ContainsFunc([]byte(s), func(b byte) bool { return b < 32 || b > 126 })
}

// isValid tells it by the words of the chapter.
func isValid(r api.Reply) bool {
	return r.Code >= 200 && r.Code <= 599 && len(r.Lines) >= 1 && len(r.Lines) <= 16 &&
		!slices.ContainsFunc(r.Lines, func(s string) bool { return !isText(s) })
}

// sent tells a valid reply as it is transmitted.
func sent(r api.Reply) string {
	out := ""
	for _, s := range r.Lines[:len(r.Lines)-1] {
		out += fmt.Sprintf("%03d-%s\r\n", r.Code, s)
	}
	return out + fmt.Sprintf("%03d %s\r\n", r.Code, r.Lines[len(r.Lines)-1])
}

// isLine tells by the words of the chapter whether s has the form of a line, the last one or not.
func isLine(s, code string, last bool) bool {
	if len(s) == 3 {
		s += " "
	}
	return len(s) > 3 && s[:3] == code && code[0] >= '2' && code[0] <= '5' &&
		strings.Contains("0123456789", code[1:2]) && strings.Contains("0123456789", code[2:3]) &&
		(s[3] == '-' || s[3] == ' ' && last) && isText(s[4:])
}

// parsed tells what Parse answers, in the order of the chapter's errors.
func parsed(l []string) (api.Reply, api.Errno) {
	if len(l) > 16 {
		return api.Reply{}, api.ErrForm
	}
	for i, s := range l {
		if len(l[0]) < 3 || !isLine(s, l[0][:3], i == len(l)-1) {
			return api.Reply{}, api.ErrForm
		}
	}
	if len(l) == 0 || strings.HasPrefix(l[len(l)-1][3:], "-") {
		return api.Reply{}, api.ErrCut
	}
	var r api.Reply
	fmt.Sscanf(l[0][:3], "%d", &r.Code)
	for _, s := range l {
		r.Lines = append(r.Lines, s[min(4, len(s)):])
	}
	return r, api.OK
}

// judge holds Check and Bytes of r against the chapter, and r against what comes of it there and back.
func judge(t *testing.T, r api.Reply) {
	t.Helper()
	want, wantE := "", api.ErrForm
	if isValid(r) {
		want, wantE = sent(r), api.OK
	}
	if e := Check(r); e != wantE {
		t.Errorf("Check(%d, %s): %v, want %v", r.Code, show(r.Lines), e, wantE)
	}
	got, e := Bytes(r)
	if got != want || e != wantE {
		t.Errorf("Bytes(%d, %s): %.40q, %v, want %.40q, %v", r.Code, show(r.Lines), got, e, want, wantE)
		return
	}
	if e == api.OK {
		thereAndBack(t, r, got)
	}
}

// thereAndBack parses the bytes of r, all of its lines and each beginning of them.
func thereAndBack(t *testing.T, r api.Reply, bytes string) {
	t.Helper()
	l := strings.Split(strings.TrimSuffix(bytes, "\r\n"), "\r\n")
	if back, e := Parse(l); e != api.OK || !same(back, r) {
		t.Errorf("%d, %s does not come back: %d, %s, %v", r.Code, show(r.Lines), back.Code, show(back.Lines), e)
	}
	for n := range l {
		if back, e := Parse(l[:n]); e != api.ErrCut || !same(back, api.Reply{}) {
			t.Errorf("%d of %s: %v, %v, want ErrCut", n, show(l), back, e)
		}
	}
	for _, s := range l {
		if len(s)+2 > api.MaxLine {
			t.Errorf("a transmitted line has %d bytes with its CRLF", len(s)+2)
		}
	}
}

// judgeLines holds Parse of l against the chapter.
func judgeLines(t *testing.T, l []string) {
	t.Helper()
	want, wantE := parsed(l)
	got, e := Parse(l)
	if e != wantE || !same(got, want) {
		t.Errorf("Parse(%s): %d, %s, %v, want %d, %s, %v", show(l), got.Code, show(got.Lines), e, want.Code, show(want.Lines), wantE)
	}
}

// P3.1: the encoding, written out.
func TestBytes(t *testing.T) {
	for _, c := range []struct {
		name string
		r    api.Reply
		want string
	}{
		{"the chapter's example", api.Reply{Code: 250, Lines: []string{"a", "b"}}, "250-a\r\n250 b\r\n"},
		{"one line", api.Reply{Code: 220, Lines: []string{"pouch at your service"}}, "220 pouch at your service\r\n"},
		{"an empty line", api.Reply{Code: 354, Lines: []string{""}}, "354 \r\n"},
		{"empty lines", api.Reply{Code: 354, Lines: []string{"", "", ""}}, "354-\r\n354-\r\n354 \r\n"},
		{"lines that look like others", api.Reply{Code: 451, Lines: []string{"-", " ", "451-a", "250 b"}}, "451--\r\n451- \r\n451-451-a\r\n451 250 b\r\n"},
		{"the first code", api.Reply{Code: 200, Lines: []string{"a"}}, "200 a\r\n"},
		{"the last code", api.Reply{Code: 599, Lines: []string{"a"}}, "599 a\r\n"},
		{"the first and the last byte", api.Reply{Code: 250, Lines: []string{" ~", "~ "}}, "250- ~\r\n250 ~ \r\n"},
		{"the longest line", api.Reply{Code: 250, Lines: []string{x(506)}}, "250 " + x(506) + "\r\n"},
		{"the most lines", api.Reply{Code: 250, Lines: times(16, "a")}, strings.Repeat("250-a\r\n", 15) + "250 a\r\n"},
	} {
		if e := Check(c.r); e != api.OK {
			t.Errorf("%s: Check: %v", c.name, e)
		}
		if got, e := Bytes(c.r); got != c.want || e != api.OK {
			t.Errorf("%s: Bytes: %.60q, %v, want %.60q", c.name, got, e, c.want)
		}
		judge(t, c.r)
	}
}

// P3.1, R4: what is not valid is refused, with nothing beside the error.
func TestNotValid(t *testing.T) {
	for _, c := range []struct {
		name string
		r    api.Reply
	}{
		{"nothing", api.Reply{}},
		{"no code", api.Reply{Lines: []string{"a"}}},
		{"a code below the first", api.Reply{Code: 199, Lines: []string{"a"}}},
		{"a code above the last", api.Reply{Code: 600, Lines: []string{"a"}}},
		{"a code below zero", api.Reply{Code: -250, Lines: []string{"a"}}},
		{"a code of two digits", api.Reply{Code: 25, Lines: []string{"a"}}},
		{"a code of four digits", api.Reply{Code: 2500, Lines: []string{"a"}}},
		{"a code that is right in its low bits", api.Reply{Code: 1<<16 + 250, Lines: []string{"a"}}},
		{"no line", api.Reply{Code: 250}},
		{"a list of no line", api.Reply{Code: 250, Lines: []string{}}},
		{"one line more", api.Reply{Code: 250, Lines: times(17, "a")}},
		{"one byte more", api.Reply{Code: 250, Lines: []string{x(507)}}},
		{"one byte more in the middle", api.Reply{Code: 250, Lines: []string{"a", x(507), "b"}}},
		{"one byte more in the end", api.Reply{Code: 250, Lines: []string{"a", x(507)}}},
		{"byte 31", api.Reply{Code: 250, Lines: []string{"a\x1f"}}},
		{"byte 127", api.Reply{Code: 250, Lines: []string{"\x7fa"}}},
		{"byte 127 in a later line", api.Reply{Code: 250, Lines: []string{"a", "b", "c\x7f"}}},
		{"a tab", api.Reply{Code: 250, Lines: []string{"a\tb"}}},
		{"a CRLF", api.Reply{Code: 250, Lines: []string{"a\r\n250 b"}}},
		{"a zero", api.Reply{Code: 250, Lines: []string{"a\x00"}}},
		{"a letter beyond 126", api.Reply{Code: 250, Lines: []string{"\u00e9"}}},
	} {
		if e := Check(c.r); e != api.ErrForm {
			t.Errorf("%s: Check: %v", c.name, e)
		}
		if got, e := Bytes(c.r); got != "" || e != api.ErrForm {
			t.Errorf("%s: Bytes: %q, %v", c.name, got, e)
		}
		judge(t, c.r)
	}
}

// P3.1, P3.3: every code, and every byte.
func TestCodesAndBytes(t *testing.T) {
	for code := -1000; code <= 6000; code++ {
		judge(t, api.Reply{Code: code, Lines: []string{"a", "b"}})
	}
	for b := range 256 {
		s := string([]byte{byte(b)})
		for _, l := range [][]string{{s}, {s, "a"}, {"a", s}, {"a" + s + "b"}, {x(505) + s}} {
			judge(t, api.Reply{Code: 250, Lines: l})
		}
	}
}

// P3.1, P3.3: around the limits of lines and of bytes.
func TestAroundLimits(t *testing.T) {
	for n := range 20 {
		for size := 500; size <= 512; size++ {
			judge(t, api.Reply{Code: 250, Lines: times(n, x(size))})
		}
		for at := range n {
			l := times(n, "a")
			l[at] = x(507)
			judge(t, api.Reply{Code: 250, Lines: l})
		}
	}
}

// P3.2: what is decoded, written out.
func TestParse(t *testing.T) {
	for _, c := range []struct {
		name string
		l    []string
		want api.Reply
	}{
		{"the chapter's example", []string{"250-a", "250 b"}, api.Reply{Code: 250, Lines: []string{"a", "b"}}},
		{"one line", []string{"354 go on"}, api.Reply{Code: 354, Lines: []string{"go on"}}},
		{"an empty line", []string{"250 "}, api.Reply{Code: 250, Lines: []string{""}}},
		{"three digits", []string{"250"}, api.Reply{Code: 250, Lines: []string{""}}},
		{"three digits at the end", []string{"250-a", "250"}, api.Reply{Code: 250, Lines: []string{"a", ""}}},
		{"empty lines", []string{"250-", "250-", "250 "}, api.Reply{Code: 250, Lines: []string{"", "", ""}}},
		{"signs in the texts", []string{"250--", "250- ", "250  -"}, api.Reply{Code: 250, Lines: []string{"-", " ", " -"}}},
		{"the first code", []string{"200 a"}, api.Reply{Code: 200, Lines: []string{"a"}}},
		{"the last code", []string{"599-a", "599 b"}, api.Reply{Code: 599, Lines: []string{"a", "b"}}},
		{"the first and the last byte", []string{"250- ~", "250 ~ "}, api.Reply{Code: 250, Lines: []string{" ~", "~ "}}},
		{"the longest lines", []string{"250-" + x(506), "250 " + x(506)}, api.Reply{Code: 250, Lines: []string{x(506), x(506)}}},
		{"the most lines", append(times(15, "250-a"), "250 a"), api.Reply{Code: 250, Lines: times(16, "a")}},
	} {
		if got, e := Parse(c.l); e != api.OK || !same(got, c.want) {
			t.Errorf("%s: %d, %s, %v", c.name, got.Code, show(got.Lines), e)
		}
		judgeLines(t, c.l)
	}
}

// P3.2, R4: what is not decoded, and why; nothing stands beside the error.
func TestParseErrors(t *testing.T) {
	for _, c := range []struct {
		name string
		l    []string
		want api.Errno
	}{
		{"nil", nil, api.ErrCut},
		{"a list of no line", []string{}, api.ErrCut},
		{"one line that goes on", []string{"250-a"}, api.ErrCut},
		{"one empty line that goes on", []string{"250-"}, api.ErrCut},
		{"the chapter's example", []string{"250-a", "250-"}, api.ErrCut},
		{"the most lines that go on", times(16, "250-a"), api.ErrCut},

		{"one line more that goes on", times(17, "250-a"), api.ErrForm},
		{"one line more", append(times(16, "250-a"), "250 a"), api.ErrForm},
		{"an empty line", []string{""}, api.ErrForm},
		{"one digit", []string{"2"}, api.ErrForm},
		{"two digits", []string{"25"}, api.ErrForm},
		{"two digits and a sign", []string{"25 "}, api.ErrForm},
		{"two digits and a text", []string{"25 a"}, api.ErrForm},
		{"four digits", []string{"2500"}, api.ErrForm},
		{"first digit 1", []string{"199 a"}, api.ErrForm},
		{"first digit 6", []string{"600 a"}, api.ErrForm},
		{"first digit 0", []string{"025 a"}, api.ErrForm},
		{"three digits from 1 on", []string{"199"}, api.ErrForm},
		{"three digits from 6 on", []string{"600"}, api.ErrForm},
		{"a letter first", []string{"a50 b"}, api.ErrForm},
		{"a letter second", []string{"2a0 b"}, api.ErrForm},
		{"a letter third", []string{"25a b"}, api.ErrForm},
		{"three letters", []string{"abc"}, api.ErrForm},
		{"a plus", []string{"+25 a"}, api.ErrForm},
		{"a minus", []string{"-25 a"}, api.ErrForm},
		{"a blank first", []string{" 250 a"}, api.ErrForm},
		{"other digits", []string{"2\u0665 a"}, api.ErrForm},
		{"a letter for the sign", []string{"250a"}, api.ErrForm},
		{"a tab for the sign", []string{"250\ta"}, api.ErrForm},
		{"a dot for the sign", []string{"250.a"}, api.ErrForm},
		{"a wrong sign ahead", []string{"250+a", "250 b"}, api.ErrForm},
		{"byte 31", []string{"250 \x1f"}, api.ErrForm},
		{"byte 127", []string{"250 a\x7f"}, api.ErrForm},
		{"a CRLF left", []string{"250 a\r\n"}, api.ErrForm},
		{"three digits and a CRLF", []string{"250\r\n"}, api.ErrForm},
		{"one byte more", []string{"250 " + x(507)}, api.ErrForm},
		{"another code", []string{"250-a", "251 b"}, api.ErrForm},
		{"another code third", []string{"250-a", "250-b", "450 c"}, api.ErrForm},
		{"another code in three digits", []string{"250-a", "251"}, api.ErrForm},
		{"two last lines", []string{"250 a", "250 b"}, api.ErrForm},
		{"two last lines after one", []string{"250-a", "250 b", "250 c"}, api.ErrForm},
		{"three digits ahead", []string{"250", "250 a"}, api.ErrForm},
		{"three digits twice", []string{"250", "250"}, api.ErrForm},

		{"both: a blank ahead", []string{"250 a", "250-b"}, api.ErrForm},
		{"both: three digits ahead", []string{"250", "250-b"}, api.ErrForm},
		{"both: another code", []string{"250-a", "251-b"}, api.ErrForm},
		{"both: a wrong code", []string{"199-a"}, api.ErrForm},
		{"both: a wrong byte", []string{"250-\x7f"}, api.ErrForm},
		{"both: a long line", []string{"250-" + x(507)}, api.ErrForm},
		{"both: a wrong line ahead", []string{"x", "250-b"}, api.ErrForm},
	} {
		if got, e := Parse(c.l); e != c.want || !same(got, api.Reply{}) {
			t.Errorf("%s: %d, %s, %v", c.name, got.Code, show(got.Lines), e)
		}
		judgeLines(t, c.l)
	}
}

// P3.2: every list of up to three of these lines, whose parts stand around what is allowed.
func TestParseAll(t *testing.T) {
	lines := []string{"", "2", "250", "251", "199", "600"}
	for _, code := range []string{"25", "250", "251", "599", "600", "199", "2a0", "2:0", "25/"} {
		for _, sign := range []string{"-", " ", ",", ".", "a"} {
			for _, text := range []string{"", "-", "\x1f"} {
				lines = append(lines, code+sign+text)
			}
		}
	}
	judgeLines(t, nil)
	for _, a := range lines {
		judgeLines(t, []string{a})
		for _, b := range lines {
			judgeLines(t, []string{a, b})
			for _, c := range lines {
				judgeLines(t, []string{a, b, c})
			}
		}
	}
}

// P3.2: every byte in every place of a line.
func TestParseBytes(t *testing.T) {
	for at := range 6 {
		for b := range 256 {
			for _, sign := range []string{"-", " "} {
				line := []byte("250" + sign + "ab")
				line[at] = byte(b)
				judgeLines(t, []string{string(line)})
				judgeLines(t, []string{string(line[:at+1])})
				judgeLines(t, []string{string(line), "250 c"})
				judgeLines(t, []string{"250-c", string(line)})
			}
		}
	}
}

// P3.2: around the limits of lines and of bytes.
func TestParseAroundLimits(t *testing.T) {
	for n := 1; n < 20; n++ {
		for size := 500; size <= 515; size++ {
			for _, last := range []string{"250 ", "250-"} {
				judgeLines(t, append(times(n-1, "250-a"), last+x(size)))
				judgeLines(t, append(times(n-1, "250-"+x(size)), last+"a"))
			}
		}
	}
}

// P3.3: what is parsed is a valid reply; its bytes are the lines again, but for the blank that three digits stand for.
func TestParseThenBytes(t *testing.T) {
	for _, l := range [][]string{
		{"250 a"}, {"250 "}, {"250"}, {"250-a", "250"}, {"250-", "250 "}, {"599--", "599 -"}, append(times(15, "200-"+x(506)), "200 "+x(506)),
	} {
		r, e := Parse(l)
		if e != api.OK || Check(r) != api.OK {
			t.Fatalf("%s: %v", show(l), e)
		}
		want := strings.Join(l, "\r\n")
		if len(l[len(l)-1]) == 3 {
			want += " "
		}
		if got, e := Bytes(r); got != want+"\r\n" || e != api.OK {
			t.Errorf("%s: %.60q, %v", show(l), got, e)
		}
	}
}

// R2: no argument is changed, and answers share nothing with arguments or with each other.
func TestNothingShared(t *testing.T) {
	r := api.Reply{Code: 250, Lines: []string{"a", "b"}}
	Check(r)
	Bytes(r)
	if !same(r, api.Reply{Code: 250, Lines: []string{"a", "b"}}) {
		t.Errorf("the argument is changed: %v", r)
	}
	l := []string{"250-a", "250 b"}
	first, _ := Parse(l)
	second, _ := Parse(l)
	first.Lines[0] = "x"
	_ = append(first.Lines, "y")
	if !slices.Equal(l, []string{"250-a", "250 b"}) || !slices.Equal(second.Lines, []string{"a", "b"}) {
		t.Errorf("what is written into an answer is seen in %v or %v", l, second)
	}
	l[0] = "250-z"
	if !slices.Equal(second.Lines, []string{"a", "b"}) {
		t.Errorf("the argument is seen in %v", second)
	}
}

// The way of all parsers: a panic that is no wrong input goes on.
func TestOtherPanicsGoOn(t *testing.T) {
	for _, c := range []struct {
		name string
		p    any
	}{{"a text", "mistake"}, {"an error number", api.ErrForm}} {
		func() {
			defer func() {
				if p := recover(); p != c.p {
					t.Errorf("%s: %v came out of catch", c.name, p)
				}
			}()
			catch(func() { panic(c.p) })
		}()
	}
	if e := catch(func() { panic(fault{api.ErrCut}) }); e != api.ErrCut {
		t.Errorf("a fault with ErrCut: %v", e)
	}
	if e := catch(func() {}); e != api.OK {
		t.Errorf("no panic: %v", e)
	}
}
