package frame

import (
	"slices"
	"strings"
	"testing"

	"pouch/api"
)

func a(n int) string { return strings.Repeat("a", n) }

func text(s string) api.Line { return api.Line{Text: s} }

var long = api.Line{Long: true}

// follow tells lines and framer by the words of the chapter, from the whole stream at once.
func follow(stream string) (api.Framer, []api.Line) {
	var lines []api.Line
	for {
		at := strings.Index(stream, "\r\n")
		if at < 0 {
			break
		}
		if at+2 > api.MaxLine {
			lines = append(lines, long)
		} else {
			lines = append(lines, text(stream[:at]))
		}
		stream = stream[at+2:]
	}
	if len(stream) < api.MaxLine {
		return api.Framer{Rest: stream}, lines
	}
	if strings.HasSuffix(stream, "\r") {
		return api.Framer{Rest: "\r", Skip: true}, lines
	}
	return api.Framer{Skip: true}, lines
}

// feedAll feeds the parts one after another.
func feedAll(t *testing.T, parts ...string) (api.Framer, []api.Line) {
	t.Helper()
	var f api.Framer
	var lines []api.Line
	for _, p := range parts {
		g, l, e := Feed(f, []byte(p))
		if e != api.OK {
			t.Fatalf("Feed(%+v, %q): %v", f, p, e)
		}
		if e := Check(g); e != api.OK {
			t.Fatalf("Feed(%+v, %q) left %+v, which is not valid", f, p, g)
		}
		f, lines = g, append(lines, l...)
	}
	return f, lines
}

func same(t *testing.T, what string, f, wantF api.Framer, l, wantL []api.Line) {
	t.Helper()
	if f != wantF || !slices.Equal(l, wantL) {
		t.Errorf("%s: %+v, %+v; want %+v, %+v", what, f, l, wantF, wantL)
	}
}

// P1.1: which framers are valid; Feed refuses the same ones, with nothing beside the error.
func TestValidFramers(t *testing.T) {
	for _, c := range []struct {
		name string
		f    api.Framer
		want api.Errno
	}{
		{"empty", api.Framer{}, api.OK},
		{"bytes", api.Framer{Rest: "ab"}, api.OK},
		{"all but one byte of a line", api.Framer{Rest: a(511)}, api.OK},
		{"the same, before its 10", api.Framer{Rest: a(510) + "\r"}, api.OK},
		{"as long as a line", api.Framer{Rest: a(512)}, api.ErrForm},
		{"as long as a line, 13 at its end", api.Framer{Rest: a(511) + "\r"}, api.ErrForm},
		{"far too long", api.Framer{Rest: a(5000)}, api.ErrForm},
		{"lone 13", api.Framer{Rest: "\r"}, api.OK},
		{"lone 10", api.Framer{Rest: "\n"}, api.OK},
		{"10 ahead of 13", api.Framer{Rest: "a\n\rb\n"}, api.OK},
		{"CRLF alone", api.Framer{Rest: "\r\n"}, api.ErrForm},
		{"CRLF inside", api.Framer{Rest: "a\r\nb"}, api.ErrForm},
		{"CRLF at the end", api.Framer{Rest: "a\r\r\n"}, api.ErrForm},
		{"CRLF at the end of all that fits", api.Framer{Rest: a(509) + "\r\n"}, api.ErrForm},
		{"skipping", api.Framer{Skip: true}, api.OK},
		{"skipping after 13", api.Framer{Rest: "\r", Skip: true}, api.OK},
		{"skipping after 10", api.Framer{Rest: "\n", Skip: true}, api.ErrForm},
		{"skipping with a byte", api.Framer{Rest: "a", Skip: true}, api.ErrForm},
		{"skipping with two 13", api.Framer{Rest: "\r\r", Skip: true}, api.ErrForm},
		{"skipping with CRLF", api.Framer{Rest: "\r\n", Skip: true}, api.ErrForm},
		{"skipping with a line's bytes", api.Framer{Rest: a(511), Skip: true}, api.ErrForm},
	} {
		if e := Check(c.f); e != c.want {
			t.Errorf("%s: Check: %v, want %v", c.name, e, c.want)
		}
		for _, b := range []string{"", "a", "\r", "\n", "x\r\ny\r\nz"} {
			g, l, e := Feed(c.f, []byte(b))
			if e != c.want {
				t.Errorf("%s: Feed of %q: %v, want %v", c.name, b, e, c.want)
			}
			if e != api.OK && (g != api.Framer{} || len(l) > 0) {
				t.Errorf("%s: Feed of %q: %+v, %+v beside an error", c.name, b, g, l)
			}
		}
	}
}

// P1.1: lines, and what is left over.
func TestFeed(t *testing.T) {
	for _, c := range []struct {
		in    string
		lines []api.Line
		f     api.Framer
	}{
		{"", nil, api.Framer{}},
		{"a\r\nb", []api.Line{text("a")}, api.Framer{Rest: "b"}},
		{"\r\n\r\n", []api.Line{text(""), text("")}, api.Framer{}},
		{"b\r\na\r\n", []api.Line{text("b"), text("a")}, api.Framer{}},
		{"a\rb\r\n", []api.Line{text("a\rb")}, api.Framer{}},
		{"a\nb\r\n", []api.Line{text("a\nb")}, api.Framer{}},
		{"a\r\r\n", []api.Line{text("a\r")}, api.Framer{}},
		{"a\n\r\n\n", []api.Line{text("a\n")}, api.Framer{Rest: "\n"}},
		{"\x00\xff\r\n\x80", []api.Line{text("\x00\xff")}, api.Framer{Rest: "\x80"}},
		{a(510) + "\r\n", []api.Line{text(a(510))}, api.Framer{}},
		{a(509) + "\r\r\n", []api.Line{text(a(509) + "\r")}, api.Framer{}},
		{a(511) + "\r\n", []api.Line{long}, api.Framer{}},
		{a(510) + "\r\r\n", []api.Line{long}, api.Framer{}},
		{a(511), nil, api.Framer{Rest: a(511)}},
		{a(510) + "\r", nil, api.Framer{Rest: a(510) + "\r"}},
		{a(512), nil, api.Framer{Skip: true}},
		{a(511) + "\n", nil, api.Framer{Skip: true}},
		{a(511) + "\r", nil, api.Framer{Rest: "\r", Skip: true}},
		{a(511) + "\r\r", nil, api.Framer{Rest: "\r", Skip: true}},
		{a(511) + "\ra", nil, api.Framer{Skip: true}},
		{a(600) + "\r\nb\r\n" + a(512) + "\r\nc", []api.Line{long, text("b"), long}, api.Framer{Rest: "c"}},
	} {
		f, l, e := Feed(api.Framer{}, []byte(c.in))
		if e != api.OK {
			t.Errorf("%.20q of %d bytes: %v", c.in, len(c.in), e)
		}
		same(t, c.in, f, c.f, l, c.lines)
	}
}

// P1.1: Feed goes on from any valid framer.
func TestFeedGoesOn(t *testing.T) {
	for _, c := range []struct {
		from  api.Framer
		in    string
		lines []api.Line
		f     api.Framer
	}{
		{api.Framer{Rest: "ab"}, "", nil, api.Framer{Rest: "ab"}},
		{api.Framer{Rest: "ab"}, "c\r\nd", []api.Line{text("abc")}, api.Framer{Rest: "d"}},
		{api.Framer{Rest: "a\r"}, "\nb", []api.Line{text("a")}, api.Framer{Rest: "b"}},
		{api.Framer{Rest: "a\r"}, "b\n", nil, api.Framer{Rest: "a\rb\n"}},
		{api.Framer{Rest: a(510) + "\r"}, "\n", []api.Line{text(a(510))}, api.Framer{}},
		{api.Framer{Rest: a(510) + "\r"}, "\r", nil, api.Framer{Rest: "\r", Skip: true}},
		{api.Framer{Rest: a(511)}, "\n", nil, api.Framer{Skip: true}},
		{api.Framer{Skip: true}, "", nil, api.Framer{Skip: true}},
		{api.Framer{Skip: true}, "\n", nil, api.Framer{Skip: true}},
		{api.Framer{Skip: true}, "\r", nil, api.Framer{Rest: "\r", Skip: true}},
		{api.Framer{Rest: "\r", Skip: true}, "", nil, api.Framer{Rest: "\r", Skip: true}},
		{api.Framer{Rest: "\r", Skip: true}, "\r", nil, api.Framer{Rest: "\r", Skip: true}},
		{api.Framer{Rest: "\r", Skip: true}, "a", nil, api.Framer{Skip: true}},
		{api.Framer{Rest: "\r", Skip: true}, "\nb\r\n", []api.Line{long, text("b")}, api.Framer{}},
	} {
		f, l, e := Feed(c.from, []byte(c.in))
		if e != api.OK {
			t.Errorf("%+v, %q: %v", c.from, c.in, e)
		}
		same(t, c.in, f, c.f, l, c.lines)
	}
}

// tails are all texts of up to n of the bytes that matter.
func tails(n int) []string {
	all := []string{""}
	for from := 0; n > 0; n-- {
		to := len(all)
		for _, s := range all[from:to] {
			all = append(all, s+"a", s+"\r", s+"\n")
		}
		from = to
	}
	return all
}

// P1.1, P1.2: every short stream, and every one around the longest line, in one part, in two and byte by byte.
func TestPartsDoNotMatter(t *testing.T) {
	for _, head := range []int{0, 507, 508, 509, 510, 511, 512, 513} {
		for _, tail := range tails(5) {
			stream := a(head) + tail
			wantF, wantL := follow(stream)
			f, l := feedAll(t, stream)
			same(t, "whole", f, wantF, l, wantL)
			for at := head; at <= len(stream); at++ {
				f, l := feedAll(t, stream[:at], stream[at:])
				same(t, "in two", f, wantF, l, wantL)
			}
			f, l = feedAll(t, append([]string{a(head)}, strings.Split(tail, "")...)...)
			same(t, "byte by byte", f, wantF, l, wantL)
		}
	}
}

// P1.2: a longer stream with all kinds of lines, in parts of every size.
func TestPartsOfEverySize(t *testing.T) {
	stream := "a\r\n\r\nb\rc\nd\r\r\n" + a(510) + "\r\n" + a(511) + "\r\n" + a(1200) + "\r\r\ne\r\n" + a(510) + "\r\r\n" + a(600) + "\r"
	wantF, wantL := follow(stream)
	if len(wantL) != 8 || wantF != (api.Framer{Rest: "\r", Skip: true}) {
		t.Fatalf("the stream is not what it is meant to be: %d lines, %+v", len(wantL), wantF)
	}
	for size := 1; size <= len(stream); size++ {
		var parts []string
		for p := range slices.Chunk([]byte(stream), size) {
			parts = append(parts, string(p))
		}
		f, l := feedAll(t, parts...)
		same(t, "parts", f, wantF, l, wantL)
	}
}

// R2: what is handed in stays as it is, and what is handed out is not changed through it.
func TestNothingIsShared(t *testing.T) {
	b := []byte("x\r\ny\r\nz")
	from := api.Framer{Rest: "w"}
	f, l, _ := Feed(from, b)
	if string(b) != "x\r\ny\r\nz" || from != (api.Framer{Rest: "w"}) {
		t.Errorf("changed what was handed in: %q, %+v", b, from)
	}
	clear(b)
	same(t, "after b was cleared", f, api.Framer{Rest: "z"}, l, []api.Line{text("wx"), text("y")})

	_, other, _ := Feed(from, []byte("x\r\ny\r\nz"))
	_ = append(l[:1], text("?"))
	if !slices.Equal(other, []api.Line{text("wx"), text("y")}) {
		t.Errorf("two answers share memory: %+v", other)
	}
}

// A mistake of the program must not be taken for wrong input.
func TestOtherPanicsGoOn(t *testing.T) {
	defer func() {
		if p := recover(); p != "mistake" {
			t.Errorf("recovered %v", p)
		}
	}()
	catch(func() { panic("mistake") })
}
