package addr

import (
	"regexp"
	"strconv"
	"strings"
	"testing"

	"pouch/api"
)

// The forms of the chapter, of any length but for a label's.
const (
	label   = `[a-z0-9](?:[a-z0-9-]{0,61}[a-z0-9])?`
	number  = `(0|[1-9][0-9]*)`
	word    = "[a-zA-Z0-9!#$%&'*+\\-/=?^_`{|}~]+"
	bare    = `[ !#-\[\]-~]` // from 32 to 126, neither a double quote nor a backslash
	needful = `\\["\\]`
	pair    = `\\[ -~]`
)

var (
	hostForm    = whole(label + `(?:\.` + label + `)*`)
	literalForm = whole(`\[` + number + `\.` + number + `\.` + number + `\.` + number + `\]`)
	plainForm   = whole(word + `(?:\.` + word + `)*`)
	quotedForm  = whole(`"((?:` + bare + `|` + needful + `)*)"`)
	looseForm   = whole(`"((?:` + bare + `|` + pair + `)*)"@(.*)`)
	pairForm    = regexp.MustCompile(`(?s)\\(.)`)
	mustEscape  = regexp.MustCompile(`["\\]`)
)

func whole(form string) *regexp.Regexp { return regexp.MustCompile(`(?s)\A` + form + `\z`) }

func x(n int) string { return strings.Repeat("x", n) }

// host is a host name of n bytes, of labels that are as long as they may be.
func host(n int) string {
	h := strings.Repeat(x(63)+".", n/64) + x(n%64)
	if strings.HasSuffix(h, ".") {
		return h[:len(h)-2] + ".x"
	}
	return h
}

func without(s string) string { return pairForm.ReplaceAllString(s, "$1") }

// wantDomain tells by the words of the chapter whether s is a domain.
func wantDomain(s string) bool {
	if len(s) > 255 {
		return false
	}
	found := literalForm.FindStringSubmatch(s)
	if found == nil {
		return hostForm.MatchString(s)
	}
	for _, n := range found[1:] {
		if v, err := strconv.Atoi(n); err != nil || v > 255 {
			return false
		}
	}
	return true
}

// wantLocal tells by the words of the chapter whether s is a local part.
func wantLocal(s string) bool {
	if len(s) < 1 || len(s) > 64 {
		return false
	}
	if plainForm.MatchString(s) {
		return true
	}
	found := quotedForm.FindStringSubmatch(s)
	return found != nil && !plainForm.MatchString(without(found[1]))
}

func small(s string) string {
	return strings.Map(func(r rune) rune {
		if r >= 'A' && r <= 'Z' {
			return r + 32
		}
		return r
	}, s)
}

// wantBox tells by the words of the chapter which mailbox s denotes.
func wantBox(s string) (api.Mailbox, bool) {
	var m api.Mailbox
	if strings.HasPrefix(s, `"`) {
		found := looseForm.FindStringSubmatch(s)
		if found == nil {
			return m, false
		}
		m = api.Mailbox{Local: without(found[1]), Domain: small(found[2])}
		if !plainForm.MatchString(m.Local) {
			m.Local = `"` + mustEscape.ReplaceAllString(m.Local, `\$0`) + `"`
		}
	} else {
		parts := strings.SplitN(s, "@", 2)
		if len(parts) < 2 {
			return m, false
		}
		m = api.Mailbox{Local: parts[0], Domain: small(parts[1])}
	}
	if !wantLocal(m.Local) || !wantDomain(m.Domain) {
		return api.Mailbox{}, false
	}
	return m, true
}

func wanted(ok bool, otherwise api.Errno) api.Errno {
	if ok {
		return api.OK
	}
	return otherwise
}

// judgeDomain holds Domain of s, and s as a mailbox's domain, against the chapter.
func judgeDomain(t *testing.T, s string) {
	t.Helper()
	want, wantE := "", api.ErrSyntax
	if wantDomain(small(s)) {
		want, wantE = small(s), api.OK
	}
	if got, e := Domain(s); got != want || e != wantE {
		t.Errorf("Domain(%.80q): %.80q, %v, want %.80q, %v", s, got, e, want, wantE)
	}
	judgeBox(t, api.Mailbox{Local: "a", Domain: s})
	judgeText(t, "a@"+s)
}

// judgeBox holds Check and Text of m against the chapter, and m against what comes of it there and back.
func judgeBox(t *testing.T, m api.Mailbox) {
	t.Helper()
	want, wantE := "", api.ErrForm
	if wantLocal(m.Local) && wantDomain(m.Domain) {
		want, wantE = m.Local+"@"+m.Domain, api.OK
	}
	if e := Check(m); e != wantE {
		t.Errorf("Check(%.80q): %v, want %v", m, e, wantE)
	}
	got, e := Text(m)
	if got != want || e != wantE {
		t.Errorf("Text(%.80q): %.80q, %v, want %.80q, %v", m, got, e, want, wantE)
	}
	if back, f := Parse(got); e == api.OK && (back != m || f != api.OK) {
		t.Errorf("%.80q does not come back: %.80q, %v", m, back, f)
	}
}

// judgeText holds Parse of s, and Path of it between its signs, against the chapter.
func judgeText(t *testing.T, s string) {
	t.Helper()
	want, ok := wantBox(s)
	wantE := wanted(ok, api.ErrSyntax)
	got, e := Parse(s)
	if got != want || e != wantE {
		t.Errorf("Parse(%.80q): %.80q, %v, want %.80q, %v", s, got, e, want, wantE)
	}
	judgePath(t, "<"+s+">")
	if e == api.OK {
		judgeBox(t, got)
	}
}

// judgePath holds Path of s against the chapter.
func judgePath(t *testing.T, s string) {
	t.Helper()
	var want api.Mailbox
	null, ok := s == "<>", s == "<>"
	if !null && len(s) >= 2 && s[0] == '<' && s[len(s)-1] == '>' {
		want, ok = wantBox(s[1 : len(s)-1])
	}
	wantE := wanted(ok, api.ErrSyntax)
	if got, n, e := Path(s); got != want || n != null || e != wantE {
		t.Errorf("Path(%.80q): %.80q, %v, %v, want %.80q, %v, %v", s, got, n, e, want, null, wantE)
	}
}

// eachString hands every string of up to most letters to each.
func eachString(letters string, most int, each func(s string)) {
	var grow func(s string)
	grow = func(s string) {
		each(s)
		if len(s) == most {
			return
		}
		for i := range len(letters) {
			grow(s + letters[i:i+1])
		}
	}
	grow("")
}

// P4.1: domains, written out.
func TestDomain(t *testing.T) {
	for _, c := range []struct{ name, s, want string }{
		{"one label", "example", "example"},
		{"labels", "mail.example.org", "mail.example.org"},
		{"capital letters", "MAIL.Example.orG", "mail.example.org"},
		{"the first and the last letters", "AZ.az.09", "az.az.09"},
		{"labels of one character", "a.0.Z", "a.0.z"},
		{"labels of digits", "1.2.3.4", "1.2.3.4"},
		{"inner signs", "a-b.c--d.xn--e-1", "a-b.c--d.xn--e-1"},
		{"the longest label", x(63), x(63)},
		{"the longest labels", x(63) + "." + x(63), x(63) + "." + x(63)},
		{"the longest host name", host(255), host(255)},
		{"the most labels", strings.Repeat("A.", 127) + "b", strings.Repeat("a.", 127) + "b"},
		{"a literal", "[127.0.0.1]", "[127.0.0.1]"},
		{"the smallest numbers", "[0.0.0.0]", "[0.0.0.0]"},
		{"the greatest numbers", "[255.255.255.255]", "[255.255.255.255]"},
		{"numbers of all lengths", "[1.20.249.100]", "[1.20.249.100]"},
	} {
		if got, e := Domain(c.s); got != c.want || e != api.OK {
			t.Errorf("%s: Domain: %.80q, %v", c.name, got, e)
		}
		if e := Check(api.Mailbox{Local: "a", Domain: c.want}); e != api.OK {
			t.Errorf("%s: Check: %v", c.name, e)
		}
		judgeDomain(t, c.s)
	}
}

// P4.1, R4: what is no domain is refused, with nothing beside the error.
func TestNoDomain(t *testing.T) {
	for _, c := range []struct{ name, s string }{
		{"nothing", ""},
		{"a dot", "."},
		{"a dot at the beginning", ".a"},
		{"a dot at the end", "a."},
		{"two dots", "a..b"},
		{"a sign at the beginning", "-a"},
		{"a sign at the end", "a-"},
		{"a sign alone", "-"},
		{"a sign at the beginning of a later label", "a.-b.c"},
		{"a sign at the end of a later label", "a.b-.c"},
		{"one character more in a label", x(64)},
		{"one character more in a later label", "a." + x(64) + ".b"},
		{"one byte more", host(256)},
		{"one byte more by labels of one", strings.Repeat("a.", 127) + "bc"},
		{"far too long", strings.Repeat("a.", 1<<16) + "a"},
		{"a low line", "a_b"},
		{"a blank", "a b"},
		{"a blank at the end", "a "},
		{"a CRLF", "a\r\n"},
		{"a zero", "a\x00"},
		{"an at", "a@b"},
		{"a letter beyond ASCII", "\u00e9"},
		{"a letter beyond ASCII whose small letter is k", "\u212a"},
		{"a letter beyond ASCII whose small letter is i and more", "\u0130"},
		{"a digit beyond ASCII", "\u0665"},
		{"no number", "[]"},
		{"one number", "[1]"},
		{"three numbers", "[1.2.3]"},
		{"five numbers", "[1.2.3.4.5]"},
		{"an empty number", "[1.2..4]"},
		{"an empty number at the beginning", "[.2.3.4]"},
		{"an empty number at the end", "[1.2.3.]"},
		{"dots", "[...]"},
		{"256", "[256.0.0.1]"},
		{"256 at the end", "[1.0.0.256]"},
		{"260", "[1.260.0.1]"},
		{"300", "[1.0.300.1]"},
		{"1000", "[1.0.0.1000]"},
		{"2 to the 64", "[1.0.0.18446744073709551616]"},
		{"2 to the 64 and one", "[1.0.0.18446744073709551617]"},
		{"a leading zero", "[01.2.3.4]"},
		{"a leading zero at the end", "[1.2.3.04]"},
		{"a leading zero of a number of three digits", "[1.2.3.025]"},
		{"two zeros", "[1.2.3.00]"},
		{"a plus", "[+1.2.3.4]"},
		{"a minus", "[1.2.3.-4]"},
		{"a letter for a number", "[1.2.3.a]"},
		{"another base", "[1.2.3.0x4]"},
		{"a blank at a number", "[1.2.3. 4]"},
		{"a literal not opened", "1.2.3.4]"},
		{"a literal not closed", "[1.2.3.4"},
		{"a literal opened twice", "[[1.2.3.4]"},
		{"a literal closed twice", "[1.2.3.4]]"},
		{"a byte before a literal", "a[1.2.3.4]"},
		{"a byte after a literal", "[1.2.3.4]a"},
		{"a literal in a label", "a.[1.2.3.4]"},
		{"an opening bracket", "["},
		{"a closing bracket", "]"},
		{"a name in brackets", "[a.b.c.d]"},
		{"a literal of another kind", "[IPv6:::1]"},
	} {
		if got, e := Domain(c.s); got != "" || e != api.ErrSyntax {
			t.Errorf("%s: Domain: %.80q, %v", c.name, got, e)
		}
		m := api.Mailbox{Local: "a", Domain: c.s}
		if e := Check(m); e != api.ErrForm {
			t.Errorf("%s: Check: %v", c.name, e)
		}
		if got, e := Text(m); got != "" || e != api.ErrForm {
			t.Errorf("%s: Text: %q, %v", c.name, got, e)
		}
		if got, e := Parse("a@" + c.s); got != (api.Mailbox{}) || e != api.ErrSyntax {
			t.Errorf("%s: Parse: %q, %v", c.name, got, e)
		}
		judgeDomain(t, c.s)
	}
}

// P4.1: a domain of a mailbox has no capital letters, though Domain takes them.
func TestCapitalsInMailbox(t *testing.T) {
	for _, d := range []string{"A", "aB.c", "Z"} {
		m := api.Mailbox{Local: "a", Domain: d}
		if e := Check(m); e != api.ErrForm {
			t.Errorf("%s: Check: %v", d, e)
		}
		if got, e := Text(m); got != "" || e != api.ErrForm {
			t.Errorf("%s: Text: %q, %v", d, got, e)
		}
	}
}

// P4.1: every number of a literal, in every place.
func TestNumbers(t *testing.T) {
	for n := range 1100 {
		v := strconv.Itoa(n)
		for _, s := range []string{v, "0" + v, "00" + v, v + "0"} {
			judgeDomain(t, "["+s+".0.10.255]")
			judgeDomain(t, "[0."+s+".10.255]")
			judgeDomain(t, "[0.10."+s+".255]")
			judgeDomain(t, "[0.10.255."+s+"]")
		}
	}
}

// P4.1: around the limits of labels and of domains.
func TestDomainLimits(t *testing.T) {
	for n := 1; n <= 70; n++ {
		for _, s := range []string{x(n), x(n) + ".a", "a." + x(n), "a." + x(n) + ".b", "-" + x(n), x(n) + "-", x(n) + "-a"} {
			judgeDomain(t, s)
		}
	}
	for n := 240; n <= 270; n++ {
		if len(host(n)) != n {
			t.Fatalf("the host name for %d bytes has %d", n, len(host(n)))
		}
		judgeDomain(t, host(n))
		judgeDomain(t, strings.ToUpper(host(n)))
		judgeDomain(t, strings.Repeat("a.", n/2)+x(n%2+1))
	}
}

// P4.1: every string of these letters, and every byte in every place.
func TestDomainAll(t *testing.T) {
	eachString("aZ0-._", 6, func(s string) { judgeDomain(t, s) })
	eachString("[].012", 5, func(s string) {
		judgeDomain(t, s)
		judgeDomain(t, "[1.2."+s)
	})
	for _, s := range []string{"a", "abc", "a.b", "a-b.c", "[1.20.0.255]"} {
		for at := range len(s) {
			for b := range 256 {
				d := []byte(s)
				d[at] = byte(b)
				judgeDomain(t, string(d))
				judgeDomain(t, s[:at]+string([]byte{byte(b)})+s[at:])
			}
		}
	}
}

// P4.1, P4.2: valid mailboxes and their texts, written out.
func TestText(t *testing.T) {
	for _, c := range []struct {
		name string
		m    api.Mailbox
		want string
	}{
		{"a plain one", api.Mailbox{Local: "a", Domain: "b"}, "a@b"},
		{"words", api.Mailbox{Local: "Anna.B.3", Domain: "ex.org"}, "Anna.B.3@ex.org"},
		{"all signs", api.Mailbox{Local: "!#$%&'*+-/=?^_`{|}~", Domain: "[1.2.3.4]"}, "!#$%&'*+-/=?^_`{|}~@[1.2.3.4]"},
		{"the first and the last letters", api.Mailbox{Local: "azAZ09", Domain: "b"}, "azAZ09@b"},
		{"the longest local part", api.Mailbox{Local: x(64), Domain: "b"}, x(64) + "@b"},
		{"the longest of all", api.Mailbox{Local: x(64), Domain: host(255)}, x(64) + "@" + host(255)},
		{"an empty quoted one", api.Mailbox{Local: `""`, Domain: "b"}, `""@b`},
		{"a blank", api.Mailbox{Local: `" "`, Domain: "b"}, `" "@b`},
		{"the first and the last byte", api.Mailbox{Local: `" ~"`, Domain: "b"}, `" ~"@b`},
		{"an at", api.Mailbox{Local: `"a@b"`, Domain: "c"}, `"a@b"@c`},
		{"a dot", api.Mailbox{Local: `"."`, Domain: "c"}, `"."@c`},
		{"dots", api.Mailbox{Local: `"a..b"`, Domain: "c"}, `"a..b"@c`},
		{"a double quote", api.Mailbox{Local: `"\""`, Domain: "c"}, `"\""@c`},
		{"a backslash", api.Mailbox{Local: `"\\"`, Domain: "c"}, `"\\"@c`},
		{"both, and a letter", api.Mailbox{Local: `"\\\"a\"\\"`, Domain: "c"}, `"\\\"a\"\\"@c`},
		{"the longest quoted one", api.Mailbox{Local: `" ` + x(61) + `"`, Domain: "c"}, `" ` + x(61) + `"@c`},
		{"the longest one of backslashes", api.Mailbox{Local: `"` + strings.Repeat(`\\`, 31) + `"`, Domain: "c"}, `"` + strings.Repeat(`\\`, 31) + `"@c`},
	} {
		if e := Check(c.m); e != api.OK {
			t.Errorf("%s: Check: %v", c.name, e)
		}
		if got, e := Text(c.m); got != c.want || e != api.OK {
			t.Errorf("%s: Text: %q, %v", c.name, got, e)
		}
		if back, e := Parse(c.want); back != c.m || e != api.OK {
			t.Errorf("%s: Parse: %q, %v", c.name, back, e)
		}
		judgeBox(t, c.m)
	}
}

// P4.1, P4.2, R4: mailboxes that are not valid, with nothing beside the error.
func TestNotValid(t *testing.T) {
	for _, c := range []struct {
		name string
		m    api.Mailbox
	}{
		{"nothing", api.Mailbox{}},
		{"no domain", api.Mailbox{Local: "a"}},
		{"no local part", api.Mailbox{Domain: "b"}},
		{"one byte more", api.Mailbox{Local: x(65), Domain: "b"}},
		{"one byte more of words", api.Mailbox{Local: strings.Repeat("a.", 32) + "b", Domain: "c"}},
		{"one byte more in quotes", api.Mailbox{Local: `" ` + x(62) + `"`, Domain: "b"}},
		{"too long with its quotes alone", api.Mailbox{Local: `"@` + x(63) + `"`, Domain: "b"}},
		{"a dot", api.Mailbox{Local: ".", Domain: "b"}},
		{"a dot at the beginning", api.Mailbox{Local: ".a", Domain: "b"}},
		{"a dot at the end", api.Mailbox{Local: "a.", Domain: "b"}},
		{"two dots", api.Mailbox{Local: "a..b", Domain: "c"}},
		{"a blank", api.Mailbox{Local: "a b", Domain: "c"}},
		{"an at", api.Mailbox{Local: "a@b", Domain: "c"}},
		{"a double quote", api.Mailbox{Local: `"`, Domain: "c"}},
		{"an inner double quote", api.Mailbox{Local: `a"b`, Domain: "c"}},
		{"a quote not closed", api.Mailbox{Local: `"a b`, Domain: "c"}},
		{"a quote not opened", api.Mailbox{Local: `a b"`, Domain: "c"}},
		{"a quote closed by a pair", api.Mailbox{Local: `"a b\"`, Domain: "c"}},
		{"a byte after the quote", api.Mailbox{Local: `"a b"c`, Domain: "d"}},
		{"a blank after the quote", api.Mailbox{Local: `"a b" `, Domain: "d"}},
		{"a word and a quote", api.Mailbox{Local: `a."b c"`, Domain: "d"}},
		{"two quotes", api.Mailbox{Local: `"a b""c d"`, Domain: "e"}},
		{"three double quotes", api.Mailbox{Local: `"""`, Domain: "c"}},
		{"a plain one in quotes", api.Mailbox{Local: `"a"`, Domain: "b"}},
		{"plain words in quotes", api.Mailbox{Local: `"a.b"`, Domain: "c"}},
		{"a backslash too many", api.Mailbox{Local: `"\a b"`, Domain: "c"}},
		{"a backslash before a blank", api.Mailbox{Local: `"a\ b"`, Domain: "c"}},
		{"a plain one with a backslash", api.Mailbox{Local: `"\a"`, Domain: "c"}},
		{"a backslash outside of quotes", api.Mailbox{Local: `a\b`, Domain: "c"}},
		{"a single backslash", api.Mailbox{Local: `"\"`, Domain: "c"}},
		{"three backslashes", api.Mailbox{Local: `" \\\"`, Domain: "c"}},
		{"byte 31", api.Mailbox{Local: "\" \x1f\"", Domain: "c"}},
		{"byte 127", api.Mailbox{Local: "\" \x7f\"", Domain: "c"}},
		{"a letter beyond ASCII", api.Mailbox{Local: "\u00e9", Domain: "c"}},
		{"a letter beyond ASCII in quotes", api.Mailbox{Local: "\" \u00e9\"", Domain: "c"}},
		{"a sign that is none of them", api.Mailbox{Local: "(", Domain: "c"}},
		{"both parts", api.Mailbox{Local: ".", Domain: "."}},
	} {
		if e := Check(c.m); e != api.ErrForm {
			t.Errorf("%s: Check: %v", c.name, e)
		}
		if got, e := Text(c.m); got != "" || e != api.ErrForm {
			t.Errorf("%s: Text: %q, %v", c.name, got, e)
		}
		judgeBox(t, c.m)
	}
}

// P4.2: what is parsed, written out.
func TestParse(t *testing.T) {
	for _, c := range []struct {
		name, s string
		want    api.Mailbox
	}{
		{"the chapter's example", `"A.b"@EX.org`, api.Mailbox{Local: "A.b", Domain: "ex.org"}},
		{"a plain one", "a@b", api.Mailbox{Local: "a", Domain: "b"}},
		{"capital letters", "Anna@EXAMPLE.Org", api.Mailbox{Local: "Anna", Domain: "example.org"}},
		{"a literal", "a@[1.2.3.4]", api.Mailbox{Local: "a", Domain: "[1.2.3.4]"}},
		{"an empty quoted one", `""@c`, api.Mailbox{Local: `""`, Domain: "c"}},
		{"a blank", `"a b"@c`, api.Mailbox{Local: `"a b"`, Domain: "c"}},
		{"a pair of a blank", `"a\ b"@c`, api.Mailbox{Local: `"a b"`, Domain: "c"}},
		{"pairs of letters", `"\a\b"@c`, api.Mailbox{Local: "ab", Domain: "c"}},
		{"pairs of letters beside a blank", `"\a \b"@c`, api.Mailbox{Local: `"a b"`, Domain: "c"}},
		{"a pair of a dot", `"a\.b"@c`, api.Mailbox{Local: "a.b", Domain: "c"}},
		{"a pair of a double quote", `"a\"b"@c`, api.Mailbox{Local: `"a\"b"`, Domain: "c"}},
		{"a pair of a backslash", `"a\\b"@c`, api.Mailbox{Local: `"a\\b"`, Domain: "c"}},
		{"a pair of a backslash at the end", `"a\\"@c`, api.Mailbox{Local: `"a\\"`, Domain: "c"}},
		{"a backslash and a double quote", `"\\\""@c`, api.Mailbox{Local: `"\\\""`, Domain: "c"}},
		{"a pair of the first byte", `"\ "@c`, api.Mailbox{Local: `" "`, Domain: "c"}},
		{"a pair of the last byte", `"\~"@c`, api.Mailbox{Local: "~", Domain: "c"}},
		{"the first and the last byte", `" ~"@c`, api.Mailbox{Local: `" ~"`, Domain: "c"}},
		{"an at in quotes", `"a@b"@c`, api.Mailbox{Local: `"a@b"`, Domain: "c"}},
		{"a quoted mailbox", `"\"a\"@b"@c`, api.Mailbox{Local: `"\"a\"@b"`, Domain: "c"}},
		{"a dot alone in quotes", `"."@c`, api.Mailbox{Local: `"."`, Domain: "c"}},
		{"brackets in quotes", `"<>"@c`, api.Mailbox{Local: `"<>"`, Domain: "c"}},
		{"the longest local part", x(64) + "@b", api.Mailbox{Local: x(64), Domain: "b"}},
		{"too long with its quotes", `"` + x(64) + `"@b`, api.Mailbox{Local: x(64), Domain: "b"}},
		{"too long with its pairs", `"` + strings.Repeat(`\x`, 64) + `"@b`, api.Mailbox{Local: x(64), Domain: "b"}},
		{"the longest quoted one", `"@` + x(61) + `"@b`, api.Mailbox{Local: `"@` + x(61) + `"`, Domain: "b"}},
		{"the longest quoted one by its pairs", `"\@` + strings.Repeat(`\x`, 61) + `"@b`, api.Mailbox{Local: `"@` + x(61) + `"`, Domain: "b"}},
		{"the longest domain", "a@" + strings.ToUpper(host(255)), api.Mailbox{Local: "a", Domain: host(255)}},
	} {
		if got, e := Parse(c.s); got != c.want || e != api.OK {
			t.Errorf("%s: Parse: %q, %v", c.name, got, e)
		}
		if got, null, e := Path("<" + c.s + ">"); got != c.want || null || e != api.OK {
			t.Errorf("%s: Path: %q, %v, %v", c.name, got, null, e)
		}
		judgeText(t, c.s)
	}
}

// P4.2, P4.3, R4: what is not parsed, with nothing beside the error.
func TestParseErrors(t *testing.T) {
	for _, c := range []struct{ name, s string }{
		{"no at", "a"},
		{"an at alone", "@"},
		{"nothing before it", "@b"},
		{"nothing after it", "a@"},
		{"two of them", "a@b@c"},
		{"two of them side by side", "a@@b"},
		{"a dot at the beginning", ".a@b"},
		{"a dot at the end", "a.@b"},
		{"two dots", "a..b@c"},
		{"a dot alone", ".@b"},
		{"a dot at the domain's beginning", "a@.b"},
		{"a dot at the domain's end", "a@b."},
		{"a blank", "a b@c"},
		{"a blank ahead", " a@b"},
		{"a blank behind", "a@b "},
		{"a blank before the at", "a @b"},
		{"a blank after the at", "a@ b"},
		{"an inner double quote", `a"b@c`},
		{"a double quote at the end", `a"@c`},
		{"a backslash outside of quotes", `a\b@c`},
		{"a quote that begins late", `a."b c"@d`},
		{"a blank ahead of a quote", ` "a b"@c`},
		{"a double quote alone", `"`},
		{"a quote not closed", `"a@c`},
		{"a quote closed by a pair", `"a\"@c`},
		{"a backslash at the end", `"a\`},
		{"a backslash alone in a quote", `"\`},
		{"nothing after a quote", `"a b"`},
		{"no at after a quote", `"a b"c`},
		{"a byte between a quote and the at", `"a b"c@d`},
		{"a blank between a quote and the at", `"a b" @c`},
		{"a second quote", `"a b""c"@d`},
		{"a dot after a quote", `"a b".c@d`},
		{"no domain after a quote", `"a b"@`},
		{"two ats after a quote", `"a b"@@c`},
		{"a wrong domain after a quote", `"a b"@c@d`},
		{"byte 31 in quotes", "\"a\x1f\"@c"},
		{"byte 127 in quotes", "\"a\x7f\"@c"},
		{"byte 31 in a pair", "\"a\\\x1f\"@c"},
		{"byte 127 in a pair", "\"a\\\x7f\"@c"},
		{"a letter beyond ASCII in quotes", "\"\u00e9\"@c"},
		{"a letter beyond ASCII", "\u00e9@c"},
		{"one byte more", x(65) + "@b"},
		{"one byte more in quotes", `"` + x(65) + `"@b`},
		{"one byte more with its quotes", `"@` + x(62) + `"@b`},
		{"too long with its backslashes alone", `"` + strings.Repeat(`\"`, 31) + `a"@b`},
		{"a domain one byte longer", "a@" + host(256)},
		{"a label one character longer", "a@" + x(64)},
		{"a wrong domain", "a@b_c"},
		{"a letter beyond ASCII whose small letter is k", "a@\u212a"},
		{"a CRLF", "a@b\r\n"},
		{"a route", "@c:a@b"},
	} {
		if got, e := Parse(c.s); got != (api.Mailbox{}) || e != api.ErrSyntax {
			t.Errorf("%s: Parse: %q, %v", c.name, got, e)
		}
		if got, null, e := Path("<" + c.s + ">"); got != (api.Mailbox{}) || null || e != api.ErrSyntax {
			t.Errorf("%s: Path: %q, %v, %v", c.name, got, null, e)
		}
		judgeText(t, c.s)
	}
	if got, e := Parse(""); got != (api.Mailbox{}) || e != api.ErrSyntax {
		t.Errorf("nothing: Parse: %q, %v", got, e)
	}
}

// P4.1, P4.2, P4.4: every string of these letters, as a mailbox and as a local part.
func TestParseAll(t *testing.T) {
	eachString("aB.@\"\\ ", 6, func(s string) {
		judgeText(t, s)
		judgeText(t, `"`+s+"@C")
		judgeBox(t, api.Mailbox{Local: s, Domain: "c"})
		judgeBox(t, api.Mailbox{Local: `"` + s + `"`, Domain: "c"})
	})
}

// P4.1, P4.2: every byte in every place.
func TestParseBytes(t *testing.T) {
	for _, s := range []string{"a@b", "ab.c@d", `"a b"@c`, `"\a"@c`, `"\"\\"@c`, `""@c`} {
		for at := range len(s) + 1 {
			for b := range 256 {
				one := string([]byte{byte(b)})
				judgeText(t, s[:at]+one+s[at:])
				judgeBox(t, api.Mailbox{Local: s[:min(at, len(s)-2)] + one + s[min(at, len(s)-2):len(s)-2], Domain: "c"})
				if at < len(s) {
					judgeText(t, s[:at]+one+s[at+1:])
				}
			}
		}
	}
}

// P4.1, P4.2: around the limit of local parts.
func TestLocalLimits(t *testing.T) {
	for n := range 70 {
		for _, text := range []string{x(n), " " + x(n), x(n) + "..", x(n) + `\"`, x(n) + `\\\"`, strings.Repeat(`\x`, n), strings.Repeat(`\"`, n), strings.Repeat(`\\`, n), strings.Repeat("a.", n) + "b"} {
			judgeText(t, text+"@c")
			judgeText(t, `"`+text+`"@c`)
			judgeBox(t, api.Mailbox{Local: text, Domain: "c"})
			judgeBox(t, api.Mailbox{Local: `"` + text + `"`, Domain: "c"})
		}
	}
	judgeText(t, `"`+strings.Repeat(`\a`, 1<<20)+`"@c`)
	judgeText(t, strings.Repeat(".", 1<<20)+"@c")
	judgeText(t, `"`+strings.Repeat("a.", 1<<20)+`a"@c`)
}

// P4.3: the empty path, and a path with a sign of its own within quotes.
func TestPath(t *testing.T) {
	if m, null, e := Path("<>"); m != (api.Mailbox{}) || !null || e != api.OK {
		t.Errorf("the empty path: %q, %v, %v", m, null, e)
	}
	for s, want := range map[string]api.Mailbox{
		"<a@B>":      {Local: "a", Domain: "b"},
		`<"a"@b>`:    {Local: "a", Domain: "b"},
		`<">"@b>`:    {Local: `">"`, Domain: "b"},
		`<"<>"@b>`:   {Local: `"<>"`, Domain: "b"},
		`<""@b>`:     {Local: `""`, Domain: "b"},
		`<"\>\""@b>`: {Local: `">\""`, Domain: "b"},
	} {
		if m, null, e := Path(s); m != want || null || e != api.OK {
			t.Errorf("%q: %q, %v, %v", s, m, null, e)
		}
	}
}

// P4.3, R4: what is no path, with nothing beside the error.
func TestPathErrors(t *testing.T) {
	for _, s := range []string{
		"", "<", ">", "><", "a@b", "<a@b", "a@b>", "a@b<>", "<>a", "a<>", "<> ", " <>", "< >", "<<>>", "<>>", "<<>", "<><>",
		"<a@b>c", "<a@b> ", " <a@b>", "c<a@b>", "< a@b>", "<a@b >", "<<a@b>>", "<a@b>>", "<<a@b>", "<a@b><c@d>", "<a>", "<@>", "<a@>", "<@b>",
		`<"a b"@c`, `"a b"@c>`, `<"a b">`, `<">`, `<"a@b>`, "<a@b>\r\n", "<@c:a@b>", "\u2039a@b\u203a",
	} {
		if m, null, e := Path(s); m != (api.Mailbox{}) || null || e != api.ErrSyntax {
			t.Errorf("%q: %q, %v, %v", s, m, null, e)
		}
		judgePath(t, s)
	}
}

// P4.3: every string of these letters.
func TestPathAll(t *testing.T) {
	eachString("<>a@\" ", 7, func(s string) { judgePath(t, s) })
}

// P4.4: strings that denote one mailbox have one text, and that denotes it too.
func TestOneText(t *testing.T) {
	for _, c := range []struct {
		want string
		s    []string
	}{
		{"A.b@ex.org", []string{"A.b@ex.org", `"A.b"@EX.org`, `"\A\.\b"@Ex.Org`, `"A\.b"@ex.oRG`}},
		{`"a b"@c`, []string{`"a b"@c`, `"a\ b"@C`, `"\a\ \b"@c`}},
		{`"\"\\"@c`, []string{`"\"\\"@c`, `"\"\\"@C`}},
		{`""@[1.2.3.4]`, []string{`""@[1.2.3.4]`}},
	} {
		first, _ := Parse(c.want)
		for _, s := range c.s {
			m, e := Parse(s)
			if m != first || e != api.OK {
				t.Errorf("%q: %q, %v, want %q", s, m, e, first)
			}
			if got, e := Text(m); got != c.want || e != api.OK {
				t.Errorf("%q: %q, %v, want %q", s, got, e, c.want)
			}
		}
	}
	capital, _ := Parse("A@b")
	if other, _ := Parse("a@b"); other == capital {
		t.Errorf("local parts of other letters denote one mailbox: %q", other)
	}
}

// The way of all parsers: a panic that is no wrong input goes on.
func TestOtherPanicsGoOn(t *testing.T) {
	for _, c := range []struct {
		name string
		p    any
	}{{"a text", "mistake"}, {"an error number", api.ErrSyntax}} {
		func() {
			defer func() {
				if p := recover(); p != c.p {
					t.Errorf("%s: %v came out of catch", c.name, p)
				}
			}()
			catch(func() { panic(c.p) })
		}()
	}
	if e := catch(func() { panic(fault{api.ErrSyntax}) }); e != api.ErrSyntax {
		t.Errorf("a fault with ErrSyntax: %v", e)
	}
	if e := catch(func() {}); e != api.OK {
		t.Errorf("no panic: %v", e)
	}
}
