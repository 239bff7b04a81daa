package verb

import (
	"math"
	"math/rand"
	"regexp"
	"strconv"
	"strings"
	"testing"

	"pouch/addr"
	"pouch/api"
)

// The forms of the chapter. A path is left to addr.Path, and a domain to addr.Domain.
var (
	nameForm  = whole(`(` + anyCase("HELO|EHLO|MAIL|RCPT|DATA|RSET|NOOP|QUIT|VRFY") + `)( .*)?`)
	mailForm  = whole(` ` + anyCase("FROM") + `: ?((?:[^">]|"(?:[^"\\]|\\.)*")*>)(?: ` + anyCase("SIZE") + `=([0-9]{1,10}))?`)
	rcptForm  = whole(` ` + anyCase("TO") + `: ?(.*)`)
	wordsForm = whole(`[!-~]+(?: [!-~]+)*`)
)

func whole(form string) *regexp.Regexp { return regexp.MustCompile(`(?s)\A` + form + `\z`) }

// anyCase is written out, since the flag of regexp takes letters beyond ASCII as well.
func anyCase(words string) string {
	return regexp.MustCompile(`[A-Z]`).ReplaceAllStringFunc(words, func(c string) string {
		return "[" + c + strings.ToLower(c) + "]"
	})
}

var kinds = map[string]int{
	"HELO": api.VerbHelo, "EHLO": api.VerbEhlo, "MAIL": api.VerbMail, "RCPT": api.VerbRcpt, "DATA": api.VerbData,
	"RSET": api.VerbRset, "NOOP": api.VerbNoop, "QUIT": api.VerbQuit, "VRFY": api.VerbVrfy,
}

var (
	plain  = api.Mailbox{Local: "a", Domain: "b.c"}
	quoted = api.Mailbox{Local: `"a >"`, Domain: "[1.2.3.4]"}
)

func w(n int) string { return strings.Repeat("w", n) }

// longest is a mailbox that has all the bytes that one may have.
func longest() api.Mailbox {
	label := strings.Repeat("d", 63)
	return api.Mailbox{Local: strings.Repeat("l", 64), Domain: label + "." + label + "." + label + "." + label}
}

// wantValid tells by the words of the chapter whether v is valid.
func wantValid(v api.Verb) bool {
	noWord, noNull, noBox, noSize := v.Word == "", !v.Null, v.Box == api.Mailbox{}, v.Size == 0
	box := addr.Check(v.Box) == api.OK
	words := len(v.Word) <= 64 && wordsForm.MatchString(v.Word)
	switch v.Kind {
	case api.VerbHelo, api.VerbEhlo:
		return addr.Check(api.Mailbox{Local: "a", Domain: v.Word}) == api.OK && noNull && noBox && noSize
	case api.VerbMail:
		return noWord && (v.Null && noBox || !v.Null && box) && v.Size >= -1 && v.Size <= 1073741824
	case api.VerbRcpt:
		return noWord && noNull && box && noSize
	case api.VerbNoop:
		return (noWord || words) && noNull && noBox && noSize
	case api.VerbVrfy:
		return words && noNull && noBox && noSize
	case api.VerbData, api.VerbRset, api.VerbQuit:
		return noWord && noNull && noBox && noSize
	}
	return false
}

// wantLine writes the valid command v by the words of the chapter.
func wantLine(v api.Verb) string {
	box := ""
	if !v.Null {
		box = v.Box.Local + "@" + v.Box.Domain
	}
	word := ""
	if v.Word != "" {
		word = " " + v.Word
	}
	size := ""
	if v.Size != -1 {
		size = " SIZE=" + strconv.Itoa(v.Size)
	}
	return map[int]string{
		api.VerbHelo: "HELO " + v.Word, api.VerbEhlo: "EHLO " + v.Word,
		api.VerbMail: "MAIL FROM:<" + box + ">" + size, api.VerbRcpt: "RCPT TO:<" + box + ">",
		api.VerbNoop: "NOOP" + word, api.VerbVrfy: "VRFY" + word,
		api.VerbData: "DATA", api.VerbRset: "RSET", api.VerbQuit: "QUIT",
	}[v.Kind]
}

// wantVerb tells by the words of the chapter which command the line s is.
func wantVerb(s string) (api.Verb, api.Errno) {
	found := nameForm.FindStringSubmatch(s)
	if found == nil {
		return api.Verb{}, api.ErrNone
	}
	v, ok := wantFields(kinds[strings.ToUpper(found[1])], found[2])
	if !ok {
		return api.Verb{}, api.ErrSyntax
	}
	return v, api.OK
}

func wantFields(kind int, rest string) (api.Verb, bool) {
	v := api.Verb{Kind: kind}
	switch kind {
	case api.VerbHelo, api.VerbEhlo:
		d, e := addr.Domain(strings.TrimPrefix(rest, " "))
		v.Word = d
		return v, e == api.OK
	case api.VerbMail:
		return wantMail(rest)
	case api.VerbRcpt:
		found := rcptForm.FindStringSubmatch(rest)
		if found == nil {
			return v, false
		}
		box, null, e := addr.Path(found[1])
		v.Box = box
		return v, e == api.OK && !null
	case api.VerbNoop, api.VerbVrfy:
		if rest == "" {
			return v, kind == api.VerbNoop
		}
		v.Word = rest[1:]
		return v, len(v.Word) <= 64 && wordsForm.MatchString(v.Word)
	}
	return v, rest == ""
}

func wantMail(rest string) (api.Verb, bool) {
	v := api.Verb{Kind: api.VerbMail, Size: -1}
	found := mailForm.FindStringSubmatch(rest)
	if found == nil {
		return v, false
	}
	box, null, e := addr.Path(found[1])
	v.Box, v.Null = box, null
	if found[2] != "" {
		n, err := strconv.ParseInt(found[2], 10, 64)
		if err != nil || n > 1073741824 {
			return v, false
		}
		v.Size = int(n)
	}
	return v, e == api.OK
}

// judgeVerb holds Check and Text of v against the chapter, and v against what comes of it there and back.
func judgeVerb(t *testing.T, v api.Verb) {
	t.Helper()
	want, wantE := "", api.ErrForm
	if wantValid(v) {
		want, wantE = wantLine(v), api.OK
	}
	if e := Check(v); e != wantE {
		t.Errorf("Check(%+v): %v, want %v", v, e, wantE)
	}
	got, e := Text(v)
	if got != want || e != wantE {
		t.Errorf("Text(%+v): %.120q, %v, want %.120q, %v", v, got, e, want, wantE)
	}
	if back, f := Parse(got); e == api.OK && (back != v || f != api.OK) {
		t.Errorf("%+v does not come back: %+v, %v", v, back, f)
	}
}

// judgeLine holds Parse of s against the chapter; what comes of it is valid.
func judgeLine(t *testing.T, s string) {
	t.Helper()
	want, wantE := wantVerb(s)
	got, e := Parse(s)
	if got != want || e != wantE {
		t.Errorf("Parse(%.120q): %+v, %v, want %+v, %v", s, got, e, want, wantE)
	}
	if e == api.OK {
		judgeVerb(t, got)
	}
}

// eachString hands every string of up to most of the parts to each.
func eachString(parts []string, most int, each func(s string)) {
	var grow func(s string, n int)
	grow = func(s string, n int) {
		each(s)
		if n == most {
			return
		}
		for _, p := range parts {
			grow(s+p, n+1)
		}
	}
	grow("", 0)
}

// valids are commands of all kinds, with their lines.
func valids() []struct {
	name string
	v    api.Verb
	want string
} {
	long := longest()
	return []struct {
		name string
		v    api.Verb
		want string
	}{
		{"HELO", api.Verb{Kind: api.VerbHelo, Word: "mail.example.org"}, "HELO mail.example.org"},
		{"HELO of one letter", api.Verb{Kind: api.VerbHelo, Word: "a"}, "HELO a"},
		{"HELO of a literal", api.Verb{Kind: api.VerbHelo, Word: "[255.0.0.1]"}, "HELO [255.0.0.1]"},
		{"EHLO", api.Verb{Kind: api.VerbEhlo, Word: "a-b.c"}, "EHLO a-b.c"},
		{"EHLO of a literal", api.Verb{Kind: api.VerbEhlo, Word: "[1.2.3.4]"}, "EHLO [1.2.3.4]"},
		{"EHLO of the longest domain", api.Verb{Kind: api.VerbEhlo, Word: long.Domain}, "EHLO " + long.Domain},
		{"MAIL", api.Verb{Kind: api.VerbMail, Box: plain, Size: -1}, "MAIL FROM:<a@b.c>"},
		{"MAIL of capital letters", api.Verb{Kind: api.VerbMail, Box: api.Mailbox{Local: "Anna.B", Domain: "c"}, Size: -1}, "MAIL FROM:<Anna.B@c>"},
		{"MAIL of quotes", api.Verb{Kind: api.VerbMail, Box: quoted, Size: -1}, `MAIL FROM:<"a >"@[1.2.3.4]>`},
		{"MAIL of nobody", api.Verb{Kind: api.VerbMail, Null: true, Size: -1}, "MAIL FROM:<>"},
		{"MAIL with size 0", api.Verb{Kind: api.VerbMail, Box: plain}, "MAIL FROM:<a@b.c> SIZE=0"},
		{"MAIL with a size", api.Verb{Kind: api.VerbMail, Box: quoted, Size: 1234}, `MAIL FROM:<"a >"@[1.2.3.4]> SIZE=1234`},
		{"MAIL of nobody with size 0", api.Verb{Kind: api.VerbMail, Null: true}, "MAIL FROM:<> SIZE=0"},
		{"MAIL with the greatest size", api.Verb{Kind: api.VerbMail, Box: plain, Size: 1 << 30}, "MAIL FROM:<a@b.c> SIZE=1073741824"},
		{"MAIL of nobody with the greatest size", api.Verb{Kind: api.VerbMail, Null: true, Size: 1 << 30}, "MAIL FROM:<> SIZE=1073741824"},
		{"the longest MAIL", api.Verb{Kind: api.VerbMail, Box: long, Size: 1 << 30}, "MAIL FROM:<" + long.Local + "@" + long.Domain + "> SIZE=1073741824"},
		{"RCPT", api.Verb{Kind: api.VerbRcpt, Box: plain}, "RCPT TO:<a@b.c>"},
		{"RCPT of quotes", api.Verb{Kind: api.VerbRcpt, Box: quoted}, `RCPT TO:<"a >"@[1.2.3.4]>`},
		{"the longest RCPT", api.Verb{Kind: api.VerbRcpt, Box: long}, "RCPT TO:<" + long.Local + "@" + long.Domain + ">"},
		{"NOOP", api.Verb{Kind: api.VerbNoop}, "NOOP"},
		{"NOOP with a word", api.Verb{Kind: api.VerbNoop, Word: "Word"}, "NOOP Word"},
		{"NOOP with words", api.Verb{Kind: api.VerbNoop, Word: "! a ~"}, "NOOP ! a ~"},
		{"NOOP with 64 bytes", api.Verb{Kind: api.VerbNoop, Word: w(64)}, "NOOP " + w(64)},
		{"NOOP with 64 bytes and blanks", api.Verb{Kind: api.VerbNoop, Word: strings.Repeat("a ", 31) + "bc"}, "NOOP " + strings.Repeat("a ", 31) + "bc"},
		{"VRFY", api.Verb{Kind: api.VerbVrfy, Word: "anna"}, "VRFY anna"},
		{"VRFY with words", api.Verb{Kind: api.VerbVrfy, Word: "~! x Y"}, "VRFY ~! x Y"},
		{"VRFY with a path", api.Verb{Kind: api.VerbVrfy, Word: `<"a"@B>`}, `VRFY <"a"@B>`},
		{"VRFY with 64 bytes", api.Verb{Kind: api.VerbVrfy, Word: w(64)}, "VRFY " + w(64)},
		{"VRFY with the first byte", api.Verb{Kind: api.VerbVrfy, Word: "!"}, "VRFY !"},
		{"VRFY with the last byte", api.Verb{Kind: api.VerbVrfy, Word: "~"}, "VRFY ~"},
		{"DATA", api.Verb{Kind: api.VerbData}, "DATA"},
		{"RSET", api.Verb{Kind: api.VerbRset}, "RSET"},
		{"QUIT", api.Verb{Kind: api.VerbQuit}, "QUIT"},
	}
}

// P5.1, P5.3: valid commands, their lines, and the commands again.
func TestThereAndBack(t *testing.T) {
	for _, c := range valids() {
		if e := Check(c.v); e != api.OK {
			t.Errorf("%s: Check: %v", c.name, e)
		}
		if got, e := Text(c.v); got != c.want || e != api.OK {
			t.Errorf("%s: Text: %q, %v", c.name, got, e)
		}
		if back, e := Parse(c.want); back != c.v || e != api.OK {
			t.Errorf("%s: Parse: %+v, %v", c.name, back, e)
		}
		judgeVerb(t, c.v)
		judgeLine(t, c.want)
	}
}

// P5.1, R4: commands that are not valid, with nothing beside the error.
func TestNotValid(t *testing.T) {
	helo := api.Verb{Kind: api.VerbHelo, Word: "a"}
	mail := api.Verb{Kind: api.VerbMail, Box: plain, Size: -1}
	null := api.Verb{Kind: api.VerbMail, Null: true, Size: -1}
	for _, c := range []struct {
		name string
		v    api.Verb
	}{
		{"no kind", api.Verb{}},
		{"no kind with a word", api.Verb{Word: "a"}},
		{"a kind too great", api.Verb{Kind: api.VerbVrfy + 1}},
		{"a kind too great with a word", api.Verb{Kind: api.VerbVrfy + 1, Word: "a"}},
		{"a kind below 0", api.Verb{Kind: -1}},
		{"the greatest kind", api.Verb{Kind: math.MaxInt}},
		{"the least kind", api.Verb{Kind: math.MinInt}},
		{"HELO of nobody", api.Verb{Kind: api.VerbHelo}},
		{"EHLO of nobody", api.Verb{Kind: api.VerbEhlo}},
		{"HELO of a capital letter", api.Verb{Kind: api.VerbHelo, Word: "A"}},
		{"EHLO of a capital letter", api.Verb{Kind: api.VerbEhlo, Word: "a.bC"}},
		{"HELO of no domain", api.Verb{Kind: api.VerbHelo, Word: "a_b"}},
		{"HELO of two words", api.Verb{Kind: api.VerbHelo, Word: "a b"}},
		{"EHLO of too great a number", api.Verb{Kind: api.VerbEhlo, Word: "[1.2.3.256]"}},
		{"EHLO of one byte more", api.Verb{Kind: api.VerbEhlo, Word: longest().Domain + "a"}},
		{"MAIL of nobody who is not null", api.Verb{Kind: api.VerbMail, Size: -1}},
		{"MAIL of null and somebody", api.Verb{Kind: api.VerbMail, Null: true, Box: plain, Size: -1}},
		{"MAIL of null and a local part", api.Verb{Kind: api.VerbMail, Null: true, Box: api.Mailbox{Local: "a"}}},
		{"MAIL of null and a domain", api.Verb{Kind: api.VerbMail, Null: true, Box: api.Mailbox{Domain: "a"}}},
		{"MAIL of no valid mailbox", api.Verb{Kind: api.VerbMail, Box: api.Mailbox{Local: `"a"`, Domain: "b"}}},
		{"MAIL of a capital letter in the domain", api.Verb{Kind: api.VerbMail, Box: api.Mailbox{Local: "a", Domain: "B"}}},
		{"MAIL of size -2", api.Verb{Kind: api.VerbMail, Box: plain, Size: -2}},
		{"MAIL of nobody of size -2", api.Verb{Kind: api.VerbMail, Null: true, Size: -2}},
		{"MAIL of one more", api.Verb{Kind: api.VerbMail, Box: plain, Size: 1<<30 + 1}},
		{"MAIL of nobody of one more", api.Verb{Kind: api.VerbMail, Null: true, Size: 1<<30 + 1}},
		{"MAIL of the greatest number", api.Verb{Kind: api.VerbMail, Box: plain, Size: math.MaxInt}},
		{"MAIL of the least number", api.Verb{Kind: api.VerbMail, Box: plain, Size: math.MinInt}},
		{"MAIL with a word", with(mail, "x", false, plain, -1)},
		{"MAIL of nobody with a word", with(null, "x", true, api.Mailbox{}, -1)},
		{"RCPT of nobody", api.Verb{Kind: api.VerbRcpt}},
		{"RCPT of null", api.Verb{Kind: api.VerbRcpt, Null: true}},
		{"RCPT of null and somebody", api.Verb{Kind: api.VerbRcpt, Null: true, Box: plain}},
		{"RCPT of no valid mailbox", api.Verb{Kind: api.VerbRcpt, Box: api.Mailbox{Local: "a b", Domain: "c"}}},
		{"RCPT with a size", api.Verb{Kind: api.VerbRcpt, Box: plain, Size: 1}},
		{"RCPT with size -1", api.Verb{Kind: api.VerbRcpt, Box: plain, Size: -1}},
		{"RCPT with a word", api.Verb{Kind: api.VerbRcpt, Box: plain, Word: "a"}},
		{"HELO with null", with(helo, "a", true, api.Mailbox{}, 0)},
		{"HELO with a box", with(helo, "a", false, plain, 0)},
		{"HELO with a size", with(helo, "a", false, api.Mailbox{}, 1)},
		{"VRFY of nothing", api.Verb{Kind: api.VerbVrfy}},
	} {
		if e := Check(c.v); e != api.ErrForm {
			t.Errorf("%s: Check: %v", c.name, e)
		}
		if got, e := Text(c.v); got != "" || e != api.ErrForm {
			t.Errorf("%s: Text: %q, %v", c.name, got, e)
		}
		judgeVerb(t, c.v)
	}
}

// with is v with all of its fields as told.
func with(v api.Verb, word string, null bool, box api.Mailbox, size int) api.Verb {
	v.Word, v.Null, v.Box, v.Size = word, null, box, size
	return v
}

// P5.1: the fields of every kind beside each other, set and not, right and wrong.
func TestFields(t *testing.T) {
	words := []string{"", "a", "A", "a.b", "a b", "a  b", " a", "a ", "-", w(64), w(65), longest().Domain, "[1.2.3.4]", "\x7f"}
	boxes := []api.Mailbox{{}, plain, quoted, {Local: "a"}, {Domain: "a"}, {Local: "a", Domain: "B"}, longest()}
	sizes := []int{math.MinInt, -1 << 30, -2, -1, 0, 1, 9, 10, 1<<30 - 1, 1 << 30, 1<<30 + 1, 1 << 31, 1 << 32, math.MaxInt}
	for kind := -2; kind <= 12; kind++ {
		for _, word := range words {
			for _, box := range boxes {
				for _, size := range sizes {
					judgeVerb(t, api.Verb{Kind: kind, Word: word, Box: box, Size: size})
					judgeVerb(t, api.Verb{Kind: kind, Word: word, Null: true, Box: box, Size: size})
				}
			}
		}
	}
}

// P5.1: one field more than the kind has makes any valid command not valid.
func TestFieldTooMany(t *testing.T) {
	for _, c := range valids() {
		k := c.v.Kind
		var wrong []api.Verb
		if k != api.VerbMail {
			wrong = append(wrong, with(c.v, c.v.Word, true, c.v.Box, 0), with(c.v, c.v.Word, false, c.v.Box, 1), with(c.v, c.v.Word, false, c.v.Box, -1))
		}
		if k != api.VerbMail && k != api.VerbRcpt {
			wrong = append(wrong, with(c.v, c.v.Word, false, plain, 0), with(c.v, c.v.Word, false, api.Mailbox{Local: "a"}, 0), with(c.v, c.v.Word, false, api.Mailbox{Domain: "a"}, 0))
		}
		if k == api.VerbMail || k == api.VerbRcpt || k == api.VerbData || k == api.VerbRset || k == api.VerbQuit {
			wrong = append(wrong, with(c.v, "a", c.v.Null, c.v.Box, c.v.Size), with(c.v, " ", c.v.Null, c.v.Box, c.v.Size))
		}
		for _, v := range wrong {
			if e := Check(v); e != api.ErrForm {
				t.Errorf("%s: Check(%+v): %v", c.name, v, e)
			}
			if got, e := Text(v); got != "" || e != api.ErrForm {
				t.Errorf("%s: Text(%+v): %q, %v", c.name, v, got, e)
			}
		}
	}
}

// P5.1, P5.2, R4: words of NOOP and VRFY that are none.
func TestNoWords(t *testing.T) {
	for _, c := range []struct{ name, word string }{
		{"a blank", " "},
		{"two blanks", "  "},
		{"a blank at the beginning", " a"},
		{"a blank at the end", "a "},
		{"two blanks beside each other", "a  b"},
		{"three blanks beside each other", "a   b"},
		{"byte 31", "a\x1f"},
		{"byte 127", "a\x7f"},
		{"byte 127 in a later word", "a b\x7fc d"},
		{"a tab", "a\tb"},
		{"a CRLF", "a\r\n"},
		{"a zero", "\x00"},
		{"byte 255", "\xff"},
		{"a letter beyond ASCII", "\u00e9"},
		{"a blank beyond ASCII", "a\u00a0b"},
		{"65 bytes", w(65)},
		{"65 bytes with blanks", strings.Repeat("a ", 32) + "b"},
		{"far too many", strings.Repeat("a ", 1<<16) + "b"},
	} {
		for kind, name := range map[int]string{api.VerbNoop: "NOOP", api.VerbVrfy: "VRFY"} {
			v := api.Verb{Kind: kind, Word: c.word}
			if e := Check(v); e != api.ErrForm {
				t.Errorf("%s: Check: %v", c.name, e)
			}
			if got, e := Text(v); got != "" || e != api.ErrForm {
				t.Errorf("%s: Text: %q, %v", c.name, got, e)
			}
			if got, e := Parse(name + " " + c.word); got != (api.Verb{}) || e != api.ErrSyntax {
				t.Errorf("%s: Parse: %+v, %v", c.name, got, e)
			}
			judgeLine(t, name+" "+c.word)
		}
	}
}

// P5.1, P5.2: every byte as a word and in one, every small string of words, and all lengths around the limit.
func TestWordsAll(t *testing.T) {
	judge := func(s string) {
		for _, kind := range []int{api.VerbNoop, api.VerbVrfy} {
			judgeVerb(t, api.Verb{Kind: kind, Word: s})
			judgeLine(t, names[kind]+" "+s)
			judgeLine(t, names[kind]+s)
		}
	}
	for b := range 256 {
		one := string([]byte{byte(b)})
		for _, s := range []string{one, one + "a", "a" + one, "a" + one + "b", "a " + one + " b"} {
			judge(s)
		}
	}
	eachString([]string{"a", "~", " ", "\x7f"}, 6, judge)
	for n := 60; n <= 70; n++ {
		judge(w(n))
		judge(w(n-2) + " w")
		judge("w " + w(n-2))
		judge(w(n-1) + " ")
		judge(" " + w(n-1))
	}
}

// P5.2: what is parsed that Text does not write, written out.
func TestParse(t *testing.T) {
	mail := func(box api.Mailbox, size int) api.Verb { return api.Verb{Kind: api.VerbMail, Box: box, Size: size} }
	rcpt := func(box api.Mailbox) api.Verb { return api.Verb{Kind: api.VerbRcpt, Box: box} }
	null := func(size int) api.Verb { return api.Verb{Kind: api.VerbMail, Null: true, Size: size} }
	box := func(local string) api.Mailbox { return api.Mailbox{Local: local, Domain: "b"} }
	for _, c := range []struct {
		name, s string
		want    api.Verb
	}{
		{"the chapter's example", "mail from:<> size=10", null(10)},
		{"small letters of HELO", "helo a", api.Verb{Kind: api.VerbHelo, Word: "a"}},
		{"small letters of EHLO", "ehlo a", api.Verb{Kind: api.VerbEhlo, Word: "a"}},
		{"small letters of RCPT", "rcpt to:<a@b.c>", rcpt(plain)},
		{"small letters of DATA", "data", api.Verb{Kind: api.VerbData}},
		{"small letters of RSET", "rset", api.Verb{Kind: api.VerbRset}},
		{"small letters of NOOP", "noop", api.Verb{Kind: api.VerbNoop}},
		{"small letters of QUIT", "quit", api.Verb{Kind: api.VerbQuit}},
		{"small letters of VRFY", "vrfy a", api.Verb{Kind: api.VerbVrfy, Word: "a"}},
		{"mixed letters", "mAiL fRoM:<a@b.c> SiZe=1", mail(plain, 1)},
		{"mixed letters, the other way", "MaIl FrOm:<a@b.c> sIzE=1", mail(plain, 1)},
		{"mixed letters of RCPT", "rCpT tO:<a@b.c>", rcpt(plain)},
		{"mixed letters of DATA", "dAtA", api.Verb{Kind: api.VerbData}},
		{"capital letters of words stay", "noop Ab CD", api.Verb{Kind: api.VerbNoop, Word: "Ab CD"}},
		{"capital letters of a domain", "HELO EX.Org", api.Verb{Kind: api.VerbHelo, Word: "ex.org"}},
		{"capital letters of another", "EHLO A.b.Z", api.Verb{Kind: api.VerbEhlo, Word: "a.b.z"}},
		{"capital letters of a path", "MAIL FROM:<A@B.C>", mail(api.Mailbox{Local: "A", Domain: "b.c"}, -1)},
		{"capital letters of a recipient", "RCPT TO:<A@B.C>", rcpt(api.Mailbox{Local: "A", Domain: "b.c"})},
		{"a blank after the colon", "MAIL FROM: <a@b.c>", mail(plain, -1)},
		{"a blank after the colon, and a size", "MAIL FROM: <a@b.c> SIZE=5", mail(plain, 5)},
		{"a blank after the colon of nobody", "MAIL FROM: <>", null(-1)},
		{"a blank after the other colon", "RCPT TO: <a@b.c>", rcpt(plain)},
		{"quotes that are not needed", `MAIL FROM:<"a"@b.c> SIZE=0`, mail(plain, 0)},
		{"quotes of a recipient that are not needed", `RCPT TO:<"\a"@b.c>`, rcpt(plain)},
		{"an end in quotes", `MAIL FROM:<">"@b>`, mail(box(`">"`), -1)},
		{"ends in quotes", `MAIL FROM:<"<>> "@b> SIZE=3`, mail(box(`"<>> "`), 3)},
		{"a size in quotes", `MAIL FROM:<"> SIZE=1"@b>`, mail(box(`"> SIZE=1"`), -1)},
		{"a size in quotes and one behind", `MAIL FROM:<"> SIZE=1"@b> SIZE=2`, mail(box(`"> SIZE=1"`), 2)},
		{"an end behind a pair", `MAIL FROM:<"\">"@b>`, mail(box(`"\">"`), -1)},
		{"an end in a pair", `MAIL FROM:<"\>"@b>`, mail(box(`">"`), -1)},
		{"a backslash at the end of quotes", `MAIL FROM:<"\\"@b> SIZE=4`, mail(box(`"\\"`), 4)},
		{"backslashes and an end", `MAIL FROM:<"\\\">\\"@b> SIZE=4`, mail(box(`"\\\">\\"`), 4)},
		{"a recipient with an end in quotes", `RCPT TO:<">"@b>`, rcpt(box(`">"`))},
		{"a recipient with an end behind a pair", `RCPT TO:<"\"> "@b>`, rcpt(box(`"\"> "`))},
		{"size 0", "MAIL FROM:<> SIZE=0", null(0)},
		{"leading zeros", "MAIL FROM:<> SIZE=007", null(7)},
		{"ten digits of zeros", "MAIL FROM:<> SIZE=0000000000", null(0)},
		{"ten digits with leading zeros", "MAIL FROM:<> SIZE=0000000012", null(12)},
		{"nine digits", "MAIL FROM:<> SIZE=999999999", null(999999999)},
		{"the greatest size", "MAIL FROM:<> SIZE=1073741824", null(1 << 30)},
		{"one less", "MAIL FROM:<> SIZE=1073741823", null(1<<30 - 1)},
	} {
		if got, e := Parse(c.s); got != c.want || e != api.OK {
			t.Errorf("%s: Parse(%q): %+v, %v", c.name, c.s, got, e)
		}
		judgeLine(t, c.s)
	}
}

// P5.2, R4: lines that name no command, with nothing beside the error.
func TestNoName(t *testing.T) {
	for _, s := range []string{
		"", "H", "HE", "HEL", "MAI", "QUI", " ", "    ", "     ", "\x00\x00\x00\x00",
		"HELOa", "HELO1", "HELLO a", "EHLOS a", "MAILS FROM:<>", "MAIL:FROM:<>", "MAILFROM:<>", "RCPTTO:<a@b>", "RCPT:", "DATAx", "DATA.", "RSET-", "NOOPx", "NOOP\x00", "QUITx", "QUIT\r", "QUIT\r\n", "VRFYx", "VRFY\u00a0a",
		"EHLO\tx", "HELO\x1f", "HELO!", "HELO\xa0a", "\x00ELO a", " HELO a", "  QUIT", "\tQUIT", "HELP", "HELP a", "SEND x", "EXPN x", "STARTTLS", "AUTH a", "LHLO a", "TURN", "ATA", "DAT A", "D ATA", "R SET",
		"R\u017fET", "R\u017fE", "RSE\u0054\u0301", "\uff28ELO a", "QU\u0131T", "QU\u0130T", "MA\u0131L FROM:<>", "HEHLO", "HELOEHLO", "OLEH a",
	} {
		if got, e := Parse(s); got != (api.Verb{}) || e != api.ErrNone {
			t.Errorf("%q: %+v, %v", s, got, e)
		}
		judgeLine(t, s)
	}
}

// P5.2, R4: lines that name a command and are wrong behind it, with nothing beside the error.
func TestSyntax(t *testing.T) {
	for _, s := range []string{
		"HELO", "HELO ", "HELO  a", "HELO a ", "HELO a b", "HELO a_", "HELO -a", "HELO a..b", "HELO [1.2.3.4", "HELO [1.2.3.04]", "HELO \u212a", "HELO a\r", "HELO " + longest().Domain + "a",
		"EHLO", "EHLO ", "EHLO  a", "EHLO a ", "EHLO a b", "EHLO \xff", "ehlo",
		"MAIL", "MAIL ", "MAIL  ", "MAIL F", "MAIL FROM", "MAIL FROM ", "MAIL FROM:", "MAIL FROM: ", "MAIL FROM:  ", "MAIL FRO:<>", "MAIL FROMM:<>", "MAIL FROM<>", "MAIL  FROM:<>", "MAIL FROM <>", "MAIL FROM :<>", "MAIL :<>", "MAIL <>", "MAIL FROM=<>", "MAIL FROM::<>",
		"MAIL FROM:  <>", "MAIL FROM:\t<>", "MAIL FROM:  <a@b>", "MAIL FROM:<> ", "MAIL FROM:<>  ", "MAIL FROM:<a@b> ", "MAIL FROM:<>x", "MAIL FROM:<>>", "MAIL FROM:<<>>", "MAIL FROM:<><>", "MAIL FROM:<a@b>>", "MAIL FROM:<", "MAIL FROM:>", "MAIL FROM:<a@b", "MAIL FROM:a@b>", "MAIL FROM:a@b", "MAIL FROM:< >", "MAIL FROM:< a@b>", "MAIL FROM:<a@b >", "MAIL FROM:<a>", "MAIL FROM:<@b>", "MAIL FROM:<a@>", "MAIL FROM:<a@b_>", "MAIL FROM:<a@\u212a>", "MAIL FROM:<a@b>\r\n",
		`MAIL FROM:<"a>`, `MAIL FROM:<"a@b>`, `MAIL FROM:<"a\"@b>`, `MAIL FROM:<"a\"@b> SIZE=1`, `MAIL FROM:<"\\"> SIZE=1"@b>`, `MAIL FROM:<a"b>c"@d>`, `MAIL FROM:<a\">b@c>`, `MAIL FROM:<\>@b>`, `MAIL FROM:"<>"`, `MAIL FROM:<"`, `MAIL FROM:<"\`, `MAIL FROM:<""`, `MAIL FROM:<"">`,
		"MAIL FROM:<>SIZE=1", "MAIL FROM:<>  SIZE=1", "MAIL FROM:<>\tSIZE=1", "MAIL FROM:<> SIZE", "MAIL FROM:<> SIZE=", "MAIL FROM:<> SIZE= ", "MAIL FROM:<> SIZE =1", "MAIL FROM:<> SIZE= 1", "MAIL FROM:<> SIZE=1 ", "MAIL FROM:<> SIZE:1", "MAIL FROM:<> SIZE1", "MAIL FROM:<> SIZES=1", "MAIL FROM:<> SIZ=1", "MAIL FROM:<> =1", "MAIL FROM:<> \u017fIZE=1", "MAIL FROM:<> 1",
		"MAIL FROM:<> SIZE=x", "MAIL FROM:<> SIZE=1x", "MAIL FROM:<> SIZE=x1", "MAIL FROM:<> SIZE=-1", "MAIL FROM:<> SIZE=+1", "MAIL FROM:<> SIZE=-0", "MAIL FROM:<> SIZE=1.0", "MAIL FROM:<> SIZE=1_0", "MAIL FROM:<> SIZE=0x1", "MAIL FROM:<> SIZE=1e3", "MAIL FROM:<> SIZE=/", "MAIL FROM:<> SIZE=:", "MAIL FROM:<> SIZE=\u0661",
		"MAIL FROM:<> SIZE=1073741825", "MAIL FROM:<> SIZE=1073741830", "MAIL FROM:<> SIZE=2147483648", "MAIL FROM:<> SIZE=4294967296", "MAIL FROM:<> SIZE=4294967297", "MAIL FROM:<> SIZE=9999999999", "MAIL FROM:<> SIZE=10737418240", "MAIL FROM:<> SIZE=00000000000", "MAIL FROM:<> SIZE=00000000001", "MAIL FROM:<> SIZE=12345678901", "MAIL FROM:<> SIZE=01073741824", "MAIL FROM:<> SIZE=18446744073709551616", "MAIL FROM:<> SIZE=18446744073709551617", "MAIL FROM:<> SIZE=" + strings.Repeat("0", 1<<16),
		"MAIL FROM:<> BODY=8", "MAIL FROM:<> SIZE=1 SIZE=1", "MAIL FROM:<> SIZE=1 BODY=8BITMIME", "MAIL TO:<a@b>", "MAIL a@b", "MAIL SIZE=1 FROM:<>",
		"RCPT", "RCPT ", "RCPT  ", "RCPT T", "RCPT TO", "RCPT TO:", "RCPT TO: ", "RCPT TO:<>", "RCPT TO: <>", "RCPT  TO:<a@b>", "RCPT TO:  <a@b>", "RCPT TO:\t<a@b>", "RCPT TO <a@b>", "RCPT TO :<a@b>", "RCPT TOO:<a@b>", "RCPT T:<a@b>", "RCPT <a@b>", "RCPT FROM:<a@b>", "RCPT TO:a@b", "RCPT TO:<a@b", "RCPT TO:a@b>", "RCPT TO:<a@b> ", "RCPT TO:<a@b>x", "RCPT TO:<a@b>>", "RCPT TO:<<a@b>>", "RCPT TO:<a@b> SIZE=1", "RCPT TO:<a@b><c@d>", "RCPT TO:<a@b>,<c@d>", `RCPT TO:<"a@b>`, `RCPT TO:<"a\"@b>`, "RCPT TO:<a>", "RCPT TO:<postmaster>", "RCPT TO:<a@b>\r\n",
		"DATA ", "DATA  ", "DATA x", "RSET ", "RSET x", "QUIT ", "QUIT x", "quit now", "DATA \r\n",
		"NOOP ", "NOOP  ", "NOOP  x", "NOOP x ", "VRFY", "VRFY ", "VRFY  ", "VRFY  x", "VRFY x ", "VRFY \x80", "vrfy",
	} {
		if got, e := Parse(s); got != (api.Verb{}) || e != api.ErrSyntax {
			t.Errorf("%.120q: %+v, %v", s, got, e)
		}
		judgeLine(t, s)
	}
}

// P5.2: ErrNone goes ahead of ErrSyntax where both apply.
func TestBothErrors(t *testing.T) {
	for _, s := range []string{"MAILX FROM:", "HELLO", "HELLO ", "XXXX ", "DATAx ", "RCPTs TO:<>", "VRFYy ", "MAIL\tFROM:<> SIZE=x", "QUITE x"} {
		if got, e := Parse(s); got != (api.Verb{}) || e != api.ErrNone {
			t.Errorf("%q: %+v, %v", s, got, e)
		}
	}
}

// P5.2: letters of each word in every mixture of cases.
func TestCases(t *testing.T) {
	for _, c := range valids() {
		name, rest := c.want[:4], c.want[4:]
		mixtures(name, func(s string) {
			if got, e := Parse(s + rest); got != c.v || e != api.OK {
				t.Errorf("%q: %+v, %v", s+rest, got, e)
			}
		})
	}
	mixtures("FROM", func(s string) {
		line := "MAIL " + s + ":<a@b.c> SIZE=1"
		if got, e := Parse(line); got != (api.Verb{Kind: api.VerbMail, Box: plain, Size: 1}) || e != api.OK {
			t.Errorf("%q: %+v, %v", line, got, e)
		}
	})
	mixtures("TO", func(s string) {
		line := "RCPT " + s + ": <a@b.c>"
		if got, e := Parse(line); got != (api.Verb{Kind: api.VerbRcpt, Box: plain}) || e != api.OK {
			t.Errorf("%q: %+v, %v", line, got, e)
		}
	})
	mixtures("SIZE", func(s string) {
		line := "MAIL FROM:<> " + s + "=1"
		if got, e := Parse(line); got != (api.Verb{Kind: api.VerbMail, Null: true, Size: 1}) || e != api.OK {
			t.Errorf("%q: %+v, %v", line, got, e)
		}
	})
}

// mixtures hands word to each with every choice of its letters in small ones.
func mixtures(word string, each func(s string)) {
	for choice := range 1 << len(word) {
		b := []byte(word)
		for i := range b {
			if choice>>i&1 == 1 {
				b[i] += 'a' - 'A'
			}
		}
		each(string(b))
	}
}

// P5.2: every name, and every part of one, with what may follow it.
func TestNamesAll(t *testing.T) {
	rests := []string{"", " ", "  ", " a", "  a", " a ", " FROM:<>", " TO:<a@b>", " FROM:", "a", ":", "\t", "\x00", "\x1f", "!", "\xa0"}
	for name := range kinds {
		for end := range len(name) + 1 {
			for _, rest := range rests {
				judgeLine(t, name[:end]+rest)
				judgeLine(t, name[end:]+rest)
				judgeLine(t, name+name[:end]+rest)
			}
		}
	}
}

// P5.2: every byte in every place of a line, put in, put for another, and no byte there.
func TestBytesAll(t *testing.T) {
	for _, s := range []string{
		"HELO a.b", "EHLO [1.2.3.4]", "MAIL FROM:<> SIZE=10", "mail from: <a@b>", `Mail From:<"\">"@b> size=0`, "RCPT TO:<a@b>", `rcpt to: <"a >"@b>`, "DATA", "RSET", "QUIT", "NOOP", "NOOP a b", "VRFY a b",
	} {
		for at := range len(s) + 1 {
			for b := range 256 {
				one := string([]byte{byte(b)})
				judgeLine(t, s[:at]+one+s[at:])
				if at < len(s) {
					judgeLine(t, s[:at]+one+s[at+1:])
				}
			}
			judgeLine(t, s[:at])
			judgeLine(t, s[:at]+s[min(at+1, len(s)):])
		}
	}
}

// P5.2: every short path, with all that decides where it ends.
func TestPathsAll(t *testing.T) {
	eachString([]string{"<", ">", `"`, `\`, "a", "@b", " "}, 5, func(s string) {
		judgeLine(t, "MAIL FROM:"+s)
		judgeLine(t, "MAIL FROM:<"+s+"> SIZE=1")
		judgeLine(t, `MAIL FROM:<"`+s+`"@b> SIZE=1`)
		judgeLine(t, "RCPT TO:"+s)
		judgeLine(t, `RCPT TO:<"`+s+`"@b>`)
	})
}

// P5.2: every short order of a line's parts.
func TestPartsAll(t *testing.T) {
	eachString([]string{" ", "FROM:", "to:", "<>", "<a@B>", "Size=", "1", "07", ":"}, 5, func(s string) {
		judgeLine(t, "MAIL"+s)
		judgeLine(t, "rcpt"+s)
		judgeLine(t, "MAIL FROM:<>"+s)
	})
}

// P5.2: numbers of all lengths, around the limit, and with leading zeros.
func TestSizes(t *testing.T) {
	for digits := range 14 {
		for d := range 10 {
			judgeLine(t, "MAIL FROM:<> SIZE="+strings.Repeat(strconv.Itoa(d), digits))
			judgeLine(t, "MAIL FROM:<a@b> SIZE="+strings.Repeat("0", digits)+strconv.Itoa(d))
		}
	}
	for around := int64(1); around <= 1<<34; around *= 2 {
		for n := around - 3; n <= around+3; n++ {
			for zeros := range 11 {
				judgeLine(t, "MAIL FROM:<> SIZE="+strings.Repeat("0", zeros)+strconv.FormatInt(n, 10))
			}
		}
	}
}

// P5.3: commands of parts that are drawn come back as they are.
func TestDrawn(t *testing.T) {
	r := rand.New(rand.NewSource(5))
	draw := func(from string, most int) string {
		b := make([]byte, r.Intn(most+1))
		for i := range b {
			b[i] = from[r.Intn(len(from))]
		}
		return string(b)
	}
	valid := 0
	for range 200000 {
		v := api.Verb{Kind: r.Intn(11)}
		switch v.Kind {
		case api.VerbHelo, api.VerbEhlo:
			v.Word = draw("ab0-.", 8)
		case api.VerbMail:
			v.Size = r.Intn(1<<30+4) - 2
			v.Null = r.Intn(3) == 0
			if !v.Null {
				v.Box = api.Mailbox{Local: draw(`aZ."\> @`, 8), Domain: draw("ab.", 3)}
			}
		case api.VerbRcpt:
			v.Box = api.Mailbox{Local: `"` + draw(`a"\> @`, 6) + `"`, Domain: draw("ab.", 3)}
		case api.VerbNoop, api.VerbVrfy:
			v.Word = draw("a~! ", 70)
		}
		if Check(v) == api.OK {
			valid++
		}
		judgeVerb(t, v)
	}
	if valid < 50000 {
		t.Errorf("of the commands that are drawn %d are valid", valid)
	}
}

// R1: long lines end in an answer as well.
func TestLong(t *testing.T) {
	for _, s := range []string{
		strings.Repeat("a", 1<<20), "HELO " + strings.Repeat("a.", 1<<20) + "a", "NOOP " + strings.Repeat("a ", 1<<20) + "a", "VRFY" + strings.Repeat(" ", 1<<20),
		`MAIL FROM:<"` + strings.Repeat(`\>`, 1<<20) + `"@b>`, "MAIL FROM:" + strings.Repeat("<", 1<<20), "MAIL FROM:" + strings.Repeat(`"`, 1<<20) + ">", "RCPT TO:" + strings.Repeat(">", 1<<20), "DATA" + strings.Repeat(" ", 1<<20),
	} {
		judgeLine(t, s)
	}
	judgeLine(t, `MAIL FROM:<"`+strings.Repeat(`\x`, 64)+`"@B> SIZE=1`)
}

// The way of all parsers: a panic that is no wrong input goes on.
func TestOtherPanicsGoOn(t *testing.T) {
	for _, c := range []struct {
		name string
		p    any
	}{{"a text", "mistake"}, {"an error number", api.ErrSyntax}} {
		func() {
			defer func() {
				if p := recover(); p != c.p {
					t.Errorf("%s: %v came out of catch", c.name, p)
				}
			}()
			catch(func() { panic(c.p) })
		}()
	}
	for _, want := range []api.Errno{api.ErrNone, api.ErrSyntax} {
		if e := catch(func() { panic(fault{want}) }); e != want {
			t.Errorf("a fault with %v: %v", want, e)
		}
	}
	if e := catch(func() {}); e != api.OK {
		t.Errorf("no panic: %v", e)
	}
}
