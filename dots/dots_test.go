package dots

import (
	"strings"
	"testing"

	"pouch/api"
)

func x(n int) string { return strings.Repeat("x", n) }

// full is a valid text of exactly n bytes, n not below 4.
func full(n int) string {
	var s strings.Builder
	for n >= 1000 {
		s.WriteString(x(498) + "\r\n")
		n -= 500
	}
	first := n / 2
	s.WriteString(x(first-2) + "\r\n" + x(n-first-2) + "\r\n")
	return s.String()
}

// isValid tells it by the words of the chapter, byte by byte.
func isValid(s string) bool {
	if len(s) > 8192 {
		return false
	}
	line := 0
	for i := 0; i < len(s); i++ {
		switch {
		case s[i] == 13 && i+1 < len(s) && s[i+1] == 10:
			line = 0
			i++
		case s[i] == 13 || s[i] == 10:
			return false
		default:
			line++
			if line > 509 {
				return false
			}
		}
	}
	return line == 0
}

// linesOf splits what ends with CRLF, or is empty, into its lines.
func linesOf(s string) []string {
	if s == "" {
		return nil
	}
	return strings.Split(strings.TrimSuffix(s, "\r\n"), "\r\n")
}

// stuffed tells a valid text as it is transmitted, from its lines.
func stuffed(s string) string {
	out := ""
	for _, l := range linesOf(s) {
		if l != "" && l[0] == '.' {
			out += "."
		}
		out += l + "\r\n"
	}
	return out + ".\r\n"
}

// backAgain takes the transmitted lines one by one; it fails where last does not come with the last of them alone.
func backAgain(t *testing.T, sent string) string {
	t.Helper()
	if !strings.HasSuffix(sent, "\r\n") {
		t.Fatalf("%.40q of %d bytes does not end with CRLF", sent, len(sent))
	}
	var s strings.Builder
	lines := linesOf(sent)
	for i, l := range lines {
		if len(l)+2 > api.MaxLine {
			t.Errorf("a transmitted line has %d bytes with its CRLF", len(l)+2)
		}
		text, last := Take(l)
		if last != (i == len(lines)-1) {
			t.Fatalf("line %d of %d, %.40q: last is %v", i, len(lines), l, last)
		}
		if last && text != "" {
			t.Errorf("last comes with the text %q", text)
		}
		if !last {
			s.WriteString(text + "\r\n")
		}
	}
	return s.String()
}

// judge holds Check and Stuff of s against the chapter, and s against what comes of it there and back.
func judge(t *testing.T, s string) {
	t.Helper()
	want, wantE := "", api.ErrForm
	if isValid(s) {
		want, wantE = stuffed(s), api.OK
	}
	if e := Check(s); e != wantE {
		t.Errorf("Check(%.40q of %d bytes): %v, want %v", s, len(s), e, wantE)
	}
	got, e := Stuff(s)
	if got != want || e != wantE {
		t.Errorf("Stuff(%.40q of %d bytes): %.40q, %v, want %.40q, %v", s, len(s), got, e, want, wantE)
		return
	}
	if e == api.OK && backAgain(t, got) != s {
		t.Errorf("%.40q of %d bytes does not come back", s, len(s))
	}
}

// P2.1: what is valid, and how it is transmitted.
func TestStuff(t *testing.T) {
	for _, c := range []struct{ name, s, want string }{
		{"empty text", "", ".\r\n"},
		{"one line", "a\r\n", "a\r\n.\r\n"},
		{"empty line", "\r\n", "\r\n.\r\n"},
		{"empty lines", "\r\n\r\n", "\r\n\r\n.\r\n"},
		{"one dot", ".\r\n", "..\r\n.\r\n"},
		{"dots alone", "..\r\n...\r\n", "...\r\n....\r\n.\r\n"},
		{"leading dot", ".a\r\nb\r\n.c\r\n", "..a\r\nb\r\n..c\r\n.\r\n"},
		{"dot elsewhere", "a.\r\n .\r\na..b\r\n", "a.\r\n .\r\na..b\r\n.\r\n"},
		{"the longest line", x(509) + "\r\n", x(509) + "\r\n.\r\n"},
		{"the longest line with a dot", "." + x(508) + "\r\n", ".." + x(508) + "\r\n.\r\n"},
		{"the longest line of dots", strings.Repeat(".", 509) + "\r\n", strings.Repeat(".", 510) + "\r\n.\r\n"},
		{"any other byte", "\x00\x7f\x80\xff\t\v\f\r\n", "\x00\x7f\x80\xff\t\v\f\r\n.\r\n"},
		{"other ends of lines", "a\u0085b\u2028c\r\n", "a\u0085b\u2028c\r\n.\r\n"},
	} {
		if e := Check(c.s); e != api.OK {
			t.Errorf("%s: Check: %v", c.name, e)
		}
		if got, e := Stuff(c.s); got != c.want || e != api.OK {
			t.Errorf("%s: Stuff: %q, %v, want %q", c.name, got, e, c.want)
		}
	}
}

// P2.1, R4: what is not valid is refused, with nothing beside the error.
func TestNotValid(t *testing.T) {
	for _, c := range []struct{ name, s string }{
		{"no CRLF", "a"},
		{"a dot without CRLF", "."},
		{"no CRLF at the end", "a\r\nb"},
		{"a 13 in its place", "a\r"},
		{"a 10 in its place", "a\n"},
		{"a 13 alone", "\r"},
		{"a 10 alone", "\n"},
		{"a 13 within a line", "a\rb\r\n"},
		{"a 10 within a line", "a\nb\r\n"},
		{"a 13 ahead of CRLF", "a\r\r\n"},
		{"a 10 ahead of CRLF", "a\n\r\n"},
		{"a 13 after CRLF", "a\r\n\r"},
		{"a 10 after CRLF", "a\r\n\n"},
		{"a 13 at the start of a line", "a\r\n\rb\r\n"},
		{"10 and 13 in the wrong order", "a\n\r"},
		{"a line of one byte too many", x(510) + "\r\n"},
		{"a later line of one byte too many", "a\r\n" + x(510) + "\r\nb\r\n"},
		{"a line of dots of one byte too many", strings.Repeat(".", 510) + "\r\n"},
		{"a line far too long", x(5000) + "\r\n"},
		{"a valid text after what is not", "\n\r\na\r\n"},
	} {
		if e := Check(c.s); e != api.ErrForm {
			t.Errorf("%s: Check: %v", c.name, e)
		}
		if got, e := Stuff(c.s); got != "" || e != api.ErrForm {
			t.Errorf("%s: Stuff: %q, %v", c.name, got, e)
		}
	}
}

// P2.1: a text of MaxSize bytes is valid, one of a byte more is not; the dots that Stuff adds do not count.
func TestSize(t *testing.T) {
	dotted := strings.Repeat("..\r\n", 2048)
	for _, c := range []struct {
		s    string
		size int
		want api.Errno
	}{
		{full(8191), 8191, api.OK},
		{full(8192), 8192, api.OK},
		{full(8193), 8193, api.ErrForm},
		{dotted, 8192, api.OK},
		{strings.Repeat("\r\n", 4096), 8192, api.OK},
		{strings.Repeat("\r\n", 4097), 8194, api.ErrForm},
		{strings.Repeat("a\r\n", 100000), 300000, api.ErrForm},
	} {
		if len(c.s) != c.size {
			t.Fatalf("the text has %d bytes, not %d", len(c.s), c.size)
		}
		if e := Check(c.s); e != c.want {
			t.Errorf("Check of %d bytes: %v, want %v", c.size, e, c.want)
		}
		judge(t, c.s)
	}
	if got, e := Stuff(dotted); e != api.OK || got != strings.Repeat("...\r\n", 2048)+".\r\n" {
		t.Errorf("MaxSize bytes of dots: %d bytes, %v", len(got), e)
	}
}

// P2.2: one transmitted line, whatever it is; a limit is not asked of it.
func TestTake(t *testing.T) {
	for _, c := range []struct {
		line, text string
		last       bool
	}{
		{"", "", false},
		{"a", "a", false},
		{".", "", true},
		{"..", ".", false},
		{"...", "..", false},
		{".a", "a", false},
		{"..a", ".a", false},
		{"a.", "a.", false},
		{" .", " .", false},
		{". ", " ", false},
		{".\r", "\r", false},
		{".\r\n", "\r\n", false},
		{"\r\n", "\r\n", false},
		{".\x00", "\x00", false},
		{x(600), x(600), false},
		{"." + x(10000), x(10000), false},
	} {
		if text, last := Take(c.line); text != c.text || last != c.last {
			t.Errorf("Take(%.40q): %.40q, %v, want %.40q, %v", c.line, text, last, c.text, c.last)
		}
	}
}

// tails are all texts of up to n of the bytes that matter.
func tails(n int) []string {
	all := []string{""}
	for from := 0; n > 0; n-- {
		to := len(all)
		for _, s := range all[from:to] {
			all = append(all, s+"a", s+".", s+"\r", s+"\n")
		}
		from = to
	}
	return all
}

// P2.1, P2.3: every short text, there and back, and every one around the longest line.
func TestShortTexts(t *testing.T) {
	for _, s := range tails(7) {
		judge(t, s)
	}
	for _, head := range []int{505, 506, 507, 508, 509, 510, 511} {
		for _, tail := range tails(5) {
			judge(t, x(head)+tail)
			judge(t, "a\r\n."+x(head-1)+tail)
		}
	}
}

// P2.1, P2.3: texts of every number of lines.
func TestManyLines(t *testing.T) {
	for n := 0; n <= 200; n++ {
		judge(t, strings.Repeat("..\r\na.\r\n\r\n.\r\n", n))
		judge(t, strings.Repeat(".\r\n", n)+full(500))
	}
}

// A mistake of the program must not be taken for wrong input.
func TestOtherPanicsGoOn(t *testing.T) {
	defer func() {
		if p := recover(); p != "mistake" {
			t.Errorf("recovered %v", p)
		}
	}()
	catch(func() { panic("mistake") })
}
