package mail

import (
	"bytes"
	"fmt"
	"math"
	"math/rand"
	"reflect"
	"slices"
	"strings"
	"testing"

	"pouch/addr"
	"pouch/api"
	"pouch/dots"
	"pouch/sum"
)

// The limits, as the chapter and the table of limits say them.
const (
	topID       = 1 << 40
	topAttempts = 1 << 20
	topTick     = 1 << 40 // MaxTick
	topCode     = 599
	tenants     = 4    // MaxTenants
	mostRcpts   = 8    // MaxRcpts
	mostBytes   = 8192 // MaxSize
	mostLine    = 509  // MaxLine - 3
)

func box(local, domain string) api.Mailbox {
	return api.Mailbox{Local: local, Domain: domain}
}

func to(m api.Mailbox, status, attempts, next, code int) api.Rcpt {
	return api.Rcpt{Box: m, Status: status, Attempts: attempts, Next: next, Code: code}
}

// many answers n recipients of unlike boxes, with all statuses in turn.
func many(n int) []api.Rcpt {
	var l []api.Rcpt
	for i := range n {
		l = append(l, to(box(fmt.Sprint("r", i), "d"), i%5, i, 10*i, 100*i%600))
	}
	return l
}

// ordinary is a message whose fields are all unlike.
func ordinary() api.Mail {
	return api.Mail{
		ID: 77, Tenant: 2, From: box("me", "here.org"),
		Rcpts: []api.Rcpt{
			to(box("a", "b"), api.Pending, 3, 20, 450),
			to(box("c", "b"), api.Trying, 4, 21, 0),
			to(box("a", "d"), api.Failed, 5, 22, 550),
		},
		Body: "one\r\n.two\r\n", Born: 9, Told: true,
	}
}

func small() api.Mail {
	return api.Mail{ID: 1, Null: true, Rcpts: []api.Rcpt{{Box: box("a", "b")}}}
}

func eight() api.Mail {
	return api.Mail{ID: topID, Tenant: 3, From: box("me", "x"), Rcpts: many(mostRcpts), Body: "x\r\n", Born: topTick, Held: true}
}

func done() api.Mail {
	m := api.Mail{ID: 5, Tenant: 1, Null: true, Body: "\r\n", Born: 3}
	m.Rcpts = []api.Rcpt{to(box("a", "b"), api.Delivered, 1, 2, 250), to(box("c", "b"), api.Dropped, 0, 0, 0)}
	return m
}

// largest has the longest encoding that there is.
func largest() api.Mail {
	m := api.Mail{ID: topID, Tenant: 3, From: longBox("f"), Body: longBody(), Born: topTick, Held: true, Told: true}
	for i := range mostRcpts {
		m.Rcpts = append(m.Rcpts, to(longBox(fmt.Sprint(i)), api.Dropped, topAttempts, 2*topTick, topCode))
	}
	return m
}

func bases() []api.Mail {
	return []api.Mail{ordinary(), small(), eight(), done()}
}

func samples() []api.Mail {
	return append(bases(), largest())
}

func longBox(local string) api.Mailbox {
	label := strings.Repeat("d", 63)
	return box(local+strings.Repeat("l", 64-len(local)), strings.Join([]string{label, label, label, label}, "."))
}

// bodyOf answers a body of n bytes, of which there is one for each n but 1.
func bodyOf(n int) string {
	if n == 0 {
		return ""
	}
	lines := (n - 2) / 64
	return strings.Repeat(strings.Repeat("y", 62)+"\r\n", lines) + strings.Repeat("y", n-2-64*lines) + "\r\n"
}

func longBody() string { return bodyOf(mostBytes) }

func goodBoxes() []api.Mailbox {
	return []api.Mailbox{
		box("x", "y"), box("X", "y"), box("x.y", "z.z"), box("!#$%&'*+-/=?^_`{|}~", "0-0"), box(`""`, "z"), box(`"a b"`, "z"),
		box(`"\""`, "z"), box(`"a@b"`, "z"), box("x", "[1.2.3.255]"), box("x", strings.Repeat("d", 63)), longBox("x"), longBox("y"),
	}
}

func wrongBoxes() []api.Mailbox {
	good := longBox("x")
	return []api.Mailbox{
		{}, box("x", ""), box("", "y"), box("x", "Y"), box("x", "y."), box("x", "-y"), box("x", "[1.2.3.256]"), box("x y", "z"),
		box("x.", "z"), box(`"x"`, "z"), box(`"x`, "z"), box("x@y", "z"), box("x", "y@z"), box("x\x00", "y"), box("\xe4", "y"), box("x", "\xe4"),
		box(good.Local+"l", "y"), box("x", good.Domain+"d"), box("x", strings.Repeat("d", 64)), box(strings.Repeat("x", 1<<16), "y"),
	}
}

func goodBodies() []string {
	var each strings.Builder
	for x := range 256 {
		if x != '\r' && x != '\n' {
			each.WriteByte(byte(x))
		}
	}
	line := strings.Repeat("z", mostLine)
	return []string{
		"", "\r\n", "a\r\n", "b\r\n", ".\r\n", ".a\r\n", "a\r\n\r\n", "a\r\nb\r\n", "\x00\r\n", "\xc3\xa4\r\n", each.String() + "\r\n",
		line + "\r\n", "." + line[1:] + "\r\n", longBody(), strings.Repeat("\r\n", mostBytes/2), longBody()[2:],
	}
}

func wrongBodies() []string {
	line := strings.Repeat("z", mostLine)
	return []string{
		"x", "\r", "\n", "x\r", "x\n", "\n\r", "x\r\ny", "x\ny\r\n", "x\ry\r\n", "\r\r\n", "\r\n\n", line + "z\r\n", line, "a\r\n" + line + "z\r\n",
		longBody() + "\r\n", "y" + longBody(), strings.Repeat("\r\n", mostBytes/2+1), strings.Repeat("y", mostBytes+1), strings.Repeat("\r\n", 1<<16),
	}
}

// clone answers a message that shares nothing with m, with other recipients in the room behind its own.
func clone(m api.Mail) api.Mail {
	whole := append(slices.Clone(m.Rcpts), many(3)...)
	m.Rcpts = whole[:len(m.Rcpts)]
	return m
}

// whole answers the recipients of a clone and those in the room behind them.
func whole(m api.Mail) []api.Rcpt {
	return m.Rcpts[:len(m.Rcpts)+3]
}

// edge is a change of a message.
type edge struct {
	name   string
	change func(m *api.Mail)
	valid  bool // what the ordinary message is with it
}

// numberEdges are those of a field that goes from least to most.
func numberEdges(name string, least, most int, field func(m *api.Mail) *int) []edge {
	var l []edge
	add := func(valid bool, numbers ...int) {
		for _, n := range numbers {
			l = append(l, edge{fmt.Sprint(name, " ", n), func(m *api.Mail) { *field(m) = n }, valid})
		}
	}
	add(true, least, least+1, most-1, most)
	add(false, least-1, least-2, most+1, most+2, 2*most+1, most+1<<8, most+1<<16, most+1<<32, most+1<<41, -most-1, -1<<32, 1<<62, math.MinInt, math.MinInt+1, math.MaxInt)
	return l
}

// places answers the first, the midst and the last recipient of m.
func places(m *api.Mail) []*api.Rcpt {
	n := len(m.Rcpts)
	return []*api.Rcpt{&m.Rcpts[0], &m.Rcpts[n/2], &m.Rcpts[n-1]}
}

func fieldEdges() []edge {
	l := slices.Concat(
		numberEdges("ID", 1, topID, func(m *api.Mail) *int { return &m.ID }),
		numberEdges("Tenant", 0, tenants-1, func(m *api.Mail) *int { return &m.Tenant }),
		numberEdges("Born", 0, topTick, func(m *api.Mail) *int { return &m.Born }),
	)
	for i := range 3 {
		l = slices.Concat(l,
			numberEdges(fmt.Sprint("Status of ", i), api.Pending, api.Dropped, func(m *api.Mail) *int { return &places(m)[i].Status }),
			numberEdges(fmt.Sprint("Attempts of ", i), 0, topAttempts, func(m *api.Mail) *int { return &places(m)[i].Attempts }),
			numberEdges(fmt.Sprint("Next of ", i), 0, 2*topTick, func(m *api.Mail) *int { return &places(m)[i].Next }),
			numberEdges(fmt.Sprint("Code of ", i), 0, topCode, func(m *api.Mail) *int { return &places(m)[i].Code }),
		)
	}
	return l
}

func textEdges() []edge {
	var l []edge
	boxes := func(valid bool, all []api.Mailbox) {
		for _, x := range all {
			l = append(l, edge{fmt.Sprintf("From %.80q", x), func(m *api.Mail) { m.Null, m.From = false, x }, valid})
			for i := range 3 {
				l = append(l, edge{fmt.Sprintf("Box of %d %.80q", i, x), func(m *api.Mail) { places(m)[i].Box = x }, valid})
			}
		}
	}
	bodies := func(valid bool, all []string) {
		for _, s := range all {
			l = append(l, edge{fmt.Sprintf("Body of %d bytes %.80q", len(s), s), func(m *api.Mail) { m.Body = s }, valid})
		}
	}
	boxes(true, goodBoxes())
	boxes(false, wrongBoxes())
	bodies(true, goodBodies())
	bodies(false, wrongBodies())
	return l
}

func otherEdges() []edge {
	l := []edge{
		{"Null and no From", func(m *api.Mail) { m.Null, m.From = true, api.Mailbox{} }, true},
		{"Null and a valid From", func(m *api.Mail) { m.Null, m.From = true, box("x", "y") }, false},
		{"Null and From's Local alone", func(m *api.Mail) { m.Null, m.From = true, box("x", "") }, false},
		{"Null and From's Domain alone", func(m *api.Mail) { m.Null, m.From = true, box("", "y") }, false},
		{"Null and a wrong From", func(m *api.Mail) { m.Null, m.From = true, box("x y", "Z") }, false},
		{"From a recipient's", func(m *api.Mail) { m.Null, m.From = false, m.Rcpts[0].Box }, true},
		{"Held", func(m *api.Mail) { m.Held = true }, true},
		{"not Held", func(m *api.Mail) { m.Held = false }, true},
		{"Told", func(m *api.Mail) { m.Told = true }, true},
		{"not Told", func(m *api.Mail) { m.Told = false }, true},
		{"nil recipients", func(m *api.Mail) { m.Rcpts = nil }, false},
		{"twice the recipients", func(m *api.Mail) { m.Rcpts = append(m.Rcpts, m.Rcpts...) }, false},
	}
	for n := range 20 {
		l = append(l, edge{fmt.Sprint(n, " recipients"), func(m *api.Mail) { m.Rcpts = many(n) }, 1 <= n && n <= mostRcpts})
	}
	return append(l, edge{"far too many recipients", func(m *api.Mail) { m.Rcpts = many(20000) }, false})
}

// edges change one thing each. Those that empty the recipients come last.
func edges() []edge {
	return slices.Concat(fieldEdges(), textEdges(), otherEdges())
}

// wantValid tells by the words of the chapter whether m is valid.
func wantValid(m api.Mail) bool {
	boxes := map[api.Mailbox]int{}
	for _, r := range m.Rcpts {
		boxes[r.Box]++
		if addr.Check(r.Box) != api.OK || r.Status < 0 || r.Status > 4 || r.Attempts < 0 || r.Attempts > topAttempts {
			return false
		}
		if r.Next < 0 || r.Next > 2*topTick || r.Code < 0 || r.Code > topCode {
			return false
		}
	}
	from := addr.Check(m.From) == api.OK
	if m.Null {
		from = m.From.Local == "" && m.From.Domain == ""
	}
	numbers := m.ID >= 1 && m.ID <= topID && m.Tenant >= 0 && m.Tenant < tenants && m.Born >= 0 && m.Born <= topTick
	return numbers && from && len(boxes) == len(m.Rcpts) && len(boxes) >= 1 && len(boxes) <= mostRcpts && dots.Check(m.Body) == api.OK
}

func wantOver(m api.Mail) bool {
	for _, r := range m.Rcpts {
		switch r.Status {
		case api.Pending, api.Trying:
			return false
		}
	}
	return true
}

// wantRest answers its message by the recipients one by one, in new memory.
func wantRest(m api.Mail) api.Mail {
	rcpts := m.Rcpts
	m.Rcpts = nil
	for _, r := range rcpts {
		if r.Status == 1 {
			r.Status = 0
		}
		m.Rcpts = append(m.Rcpts, r)
	}
	return m
}

func same(a, b api.Mail) bool { return reflect.DeepEqual(a, b) }

func isZero(m api.Mail) bool { return same(m, api.Mail{}) }

// ask asks all calls that take a message for m, and holds the answers against what is wanted.
func ask(t *testing.T, name string, m api.Mail, valid bool) {
	t.Helper()
	before := whole(clone(m))
	m = clone(m)
	check := Check(m)
	over, e1 := Over(m)
	cost, e2 := Cost(m)
	rest, e3 := Rest(m)
	b, e4 := Bytes(m)
	if !slices.Equal(whole(m), before) {
		t.Fatalf("%s: what was handed in is changed", name)
	}
	want := api.ErrForm
	if valid {
		want = api.OK
	}
	for i, e := range []api.Errno{check, e1, e2, e3, e4} {
		if e != want {
			t.Fatalf("%s: call %d: %v, want %v", name, i, e, want)
		}
	}
	if !valid {
		if over || cost != 0 || !isZero(rest) || len(b) != 0 {
			t.Fatalf("%s: beside an error: %v, %d, %+v, %q", name, over, cost, rest, b)
		}
		return
	}
	if over != wantOver(m) || cost != len(m.Body)+1000 || !same(rest, wantRest(m)) {
		t.Fatalf("%s: %v, %d, %+v", name, over, cost, rest)
	}
	back, e := Parse(b)
	if e != api.OK || !same(back, m) {
		t.Fatalf("%s: comes back as %v, %+v", name, e, back)
	}
}

// encoding answers the encoding of m, which must be valid.
func encoding(t *testing.T, m api.Mail) []byte {
	t.Helper()
	b, e := Bytes(m)
	if e != api.OK {
		t.Fatalf("Bytes of %+v: %v", m, e)
	}
	return b
}

// parse parses any bytes: they are those of a message, or ErrForm is answered with nothing beside it.
func parse(t *testing.T, b []byte) api.Errno {
	t.Helper()
	handed := append(slices.Clone(b), "room"...)
	m, e := Parse(handed[:len(b)])
	if string(handed) != string(b)+"room" {
		t.Fatalf("Parse changed %q", b)
	}
	switch e {
	case api.OK:
		if !wantValid(m) || !bytes.Equal(encoding(t, m), b) {
			t.Fatalf("Parse of %q: %+v, which has another encoding", b, m)
		}
	case api.ErrForm:
		if !isZero(m) {
			t.Fatalf("Parse of %q: beside an error: %+v", b, m)
		}
	default:
		t.Fatalf("Parse of %q: %v", b, e)
	}
	return e
}

// refused parses bytes that are no message's.
func refused(t *testing.T, b []byte) {
	t.Helper()
	if parse(t, b) != api.ErrForm {
		t.Fatalf("Parse takes %q", b)
	}
}

// summed answers b with the sum behind it that an encoding would have there.
func summed(b []byte) []byte {
	w := writer{out: slices.Clone(b)}
	w.number(int(sum.Sum(0, b)))
	return w.out
}

// unsummed answers the encoding of m without its sum.
func unsummed(m api.Mail) []byte {
	var w writer
	w.mail(m)
	return w.out
}

// P15.1, P15.2: the chapter's example.
func TestExample(t *testing.T) {
	m := small()
	m.Body = "abc\r\n"
	if n, e := Cost(m); n != 1005 || e != api.OK {
		t.Errorf("%d, %v", n, e)
	}
	b := encoding(t, m)
	refused(t, b[:len(b)-1])
}

// P15.1, P15.2: each of many things at its edges and beyond, in several messages.
func TestEdges(t *testing.T) {
	for i, base := range samples() {
		ask(t, fmt.Sprint(i), base, true)
		for _, x := range edges() {
			m := clone(base)
			x.change(&m)
			ask(t, fmt.Sprint(i, ": ", x.name), m, wantValid(m))
		}
	}
	for _, x := range edges() {
		m := clone(ordinary())
		x.change(&m)
		ask(t, x.name, m, x.valid)
	}
}

// P15.1, P15.2: two things at once.
func TestPairsOfEdges(t *testing.T) {
	first, second := slices.Concat(fieldEdges(), textEdges()), edges()
	for i, x := range first {
		for k, y := range second {
			if (i+k)%3 != 0 {
				continue
			}
			m := clone(ordinary())
			x.change(&m)
			y.change(&m)
			want := api.ErrForm
			if wantValid(m) {
				want = api.OK
			}
			if got := Check(m); got != want {
				t.Fatalf("%s, %s: %v", x.name, y.name, got)
			}
			if b, e := Bytes(m); e != want || e == api.OK && parse(t, b) != api.OK {
				t.Fatalf("%s, %s: %v", x.name, y.name, e)
			}
		}
	}
}

// P15.1: two equal boxes, beside one another and far apart, with and without other fields equal.
func TestEqualBoxes(t *testing.T) {
	for n := 2; n <= mostRcpts; n++ {
		for i := range n {
			for k := range i {
				m := ordinary()
				m.Rcpts = many(n)
				m.Rcpts[i].Box = m.Rcpts[k].Box
				ask(t, fmt.Sprint(n, k, i), m, false)
				m.Rcpts[i] = m.Rcpts[k]
				ask(t, fmt.Sprint(n, k, i), m, false)
				m.Rcpts[i].Box.Domain = "other"
				ask(t, fmt.Sprint(n, k, i), m, true)
				m.Rcpts[i].Box = m.Rcpts[k].Box
				m.Rcpts[i].Box.Local = "other"
				ask(t, fmt.Sprint(n, k, i), m, true)
				m.Rcpts[i].Box.Local = strings.ToUpper(m.Rcpts[k].Box.Local)
				ask(t, fmt.Sprint(n, k, i), m, true)
			}
		}
	}
}

// P15.1: boxes that are not equal, though they are when their parts are put together.
func TestAlikeBoxes(t *testing.T) {
	m := ordinary()
	m.Rcpts = nil
	for _, x := range []api.Mailbox{box("a", "bc"), box("ab", "c"), box("a", "b"), box(`"a "`, "b"), box("a", "b.c"), box("a.b", "c")} {
		m.Rcpts = append(m.Rcpts, api.Rcpt{Box: x})
	}
	ask(t, "alike", m, true)
}

// P15.1: an invalid box at each place.
func TestWrongBoxAtEachPlace(t *testing.T) {
	for _, x := range wrongBoxes() {
		for n := 1; n <= mostRcpts; n++ {
			for i := range n {
				m := ordinary()
				m.Rcpts = many(n)
				m.Rcpts[i].Box = x
				ask(t, fmt.Sprintf("%d of %d: %.80q", i, n, x), m, false)
			}
		}
	}
}

// P15.1: recipients of all statuses, for up to four of them.
func TestStatuses(t *testing.T) {
	for n := 1; n <= 4; n++ {
		for k := range int(math.Pow(5, float64(n))) {
			m := ordinary()
			m.Rcpts = many(n)
			for i := range m.Rcpts {
				m.Rcpts[i].Status = k % 5
				k /= 5
			}
			ask(t, fmt.Sprintf("%+v", m.Rcpts), m, true)
		}
	}
}

// P15.1: one recipient that is not at its end, at each place among those that are.
func TestOverByOne(t *testing.T) {
	want := map[int]bool{api.Pending: false, api.Trying: false, api.Delivered: true, api.Failed: true, api.Dropped: true}
	for status, over := range want {
		for n := 1; n <= mostRcpts; n++ {
			for i := range n {
				m := ordinary()
				m.Rcpts = many(n)
				for k := range m.Rcpts {
					m.Rcpts[k].Status = api.Delivered + k%3
				}
				m.Rcpts[i].Status = status
				if got, e := Over(m); got != over || e != api.OK {
					t.Errorf("status %d at %d of %d: %v, %v", status, i, n, got, e)
				}
			}
		}
	}
}

// P15.1: what does not count for Over.
func TestOverAsksForStatusesAlone(t *testing.T) {
	for _, m := range []api.Mail{done(), ordinary()} {
		want := wantOver(m)
		for i := range 8 {
			m.Held, m.Told = i&1 != 0, i&2 != 0
			m.Rcpts[0].Attempts, m.Rcpts[0].Next, m.Rcpts[0].Code = i*1000, i*topTick/4, i*80
			if got, e := Over(m); got != want || e != api.OK {
				t.Errorf("%+v: %v, %v", m, got, e)
			}
		}
	}
}

// P15.1: a body of each length, and messages of all kinds.
func TestCost(t *testing.T) {
	m := ordinary()
	for n := range mostBytes + 1 {
		if n == 1 {
			continue
		}
		m.Body = bodyOf(n)
		if got, e := Cost(m); got != n+1000 || e != api.OK {
			t.Fatalf("%d: %d, %v", n, got, e)
		}
	}
	for _, m := range samples() {
		if got, e := Cost(m); got != len(m.Body)+1000 || e != api.OK {
			t.Errorf("%d, %v", got, e)
		}
	}
}

// P15.1: Rest changes Trying to Pending and nothing else, and is done once it was done.
func TestRest(t *testing.T) {
	for _, m := range samples() {
		for status := api.Pending; status <= api.Dropped; status++ {
			m = clone(m)
			for i := range m.Rcpts {
				m.Rcpts[i].Status = status
			}
			got, e := Rest(m)
			if e != api.OK || !same(got, wantRest(m)) {
				t.Fatalf("%+v: %v, %+v", m, e, got)
			}
			if m.Rcpts[0].Status != status {
				t.Fatalf("Rest changed what it was handed: %+v", m)
			}
			if again, e := Rest(got); e != api.OK || !same(again, got) {
				t.Fatalf("%+v: %v, %+v", got, e, again)
			}
		}
	}
}

// P15.2, P15.3: equal messages have equal encodings, whatever memory they lie in.
func TestEqualMessages(t *testing.T) {
	for i := range samples() {
		m, other := samples()[i], clone(samples()[i])
		other.Body = string([]byte(other.Body))
		other.From.Local = string([]byte(other.From.Local))
		b := encoding(t, m)
		for range 3 {
			if !bytes.Equal(encoding(t, m), b) || !bytes.Equal(encoding(t, other), b) {
				t.Fatalf("%+v has several encodings", m)
			}
		}
		back, e := Parse(b)
		if e != api.OK || !bytes.Equal(encoding(t, back), b) {
			t.Fatalf("%+v: %v", m, e)
		}
	}
}

// P15.2, P15.3: messages that differ have unlike encodings.
func TestUnlikeMessages(t *testing.T) {
	seen := map[string]api.Mail{}
	take := func(m api.Mail) {
		if !wantValid(m) {
			return
		}
		b := string(encoding(t, m))
		if other, there := seen[b]; there && !same(other, m) {
			t.Fatalf("%+v and %+v have one encoding", m, other)
		}
		seen[b] = m
	}
	for _, base := range samples() {
		take(clone(base))
		for _, x := range edges() {
			m := clone(base)
			x.change(&m)
			take(m)
		}
		for i := range base.Rcpts {
			m := clone(base)
			m.Rcpts[0], m.Rcpts[i] = m.Rcpts[i], m.Rcpts[0]
			take(m)
			m = clone(base)
			m.Rcpts = m.Rcpts[:i]
			take(m)
		}
	}
	if len(seen) < 500 {
		t.Errorf("only %d messages", len(seen))
	}
}

// P15.2: messages whose texts are parted otherwise have unlike encodings.
func TestPartedOtherwise(t *testing.T) {
	seen := map[string]int{}
	words := []string{"a", "aa", "aaa"}
	n := 0
	for _, x := range words {
		for _, y := range words {
			for _, z := range words {
				m := small()
				m.Null, m.From, m.Rcpts[0].Box = false, box(x, y), box(z, "a")
				seen[string(encoding(t, m))]++
				m.Rcpts = append(m.Rcpts, api.Rcpt{Box: box("aaaa", "a")})
				seen[string(encoding(t, m))]++
				n += 2
			}
		}
	}
	if len(seen) != n {
		t.Errorf("%d messages have %d encodings", n, len(seen))
	}
}

// P15.2: the true beginnings of an encoding, and its ends.
func TestCutEncodings(t *testing.T) {
	for _, m := range samples() {
		b := encoding(t, m)
		for n := range b {
			refused(t, b[:n])
			if n > 0 {
				refused(t, b[n:])
			}
		}
	}
}

// P15.2: bytes behind an encoding and ahead of it.
func TestLongerEncodings(t *testing.T) {
	for _, m := range samples() {
		b := encoding(t, m)
		for x := range 256 {
			refused(t, append(slices.Clone(b), byte(x)))
			refused(t, append([]byte{byte(x)}, b...))
		}
		for _, more := range [][]byte{b, b[:8], b[len(b)-8:], make([]byte, 8), make([]byte, 1000)} {
			refused(t, slices.Concat(b, more))
		}
		refused(t, summed(b))
		refused(t, summed(append(unsummed(m), make([]byte, 8)...)))
	}
}

// P15.2: each byte is changed to each other one; with the sum as it was, and with the one of the new bytes.
func TestChangedBytes(t *testing.T) {
	for _, m := range bases() {
		b, plain := encoding(t, m), unsummed(m)
		for i := range b {
			for x := range 256 {
				if old := b[i]; byte(x) != old {
					b[i] = byte(x)
					parse(t, b)
					b[i] = old
				}
			}
		}
		for i := range plain {
			for x := range 256 {
				old := plain[i]
				plain[i] = byte(x)
				parse(t, summed(plain))
				plain[i] = old
			}
		}
	}
}

// P15.2: a change of one bit or byte does not pass for another message's encoding: the sum tells it.
func TestDamageIsTold(t *testing.T) {
	for _, m := range samples() {
		b := encoding(t, m)
		for i := 0; i < len(b); i += 1 + len(b)/2000 {
			for bit := range 8 {
				b[i] ^= 1 << bit
				refused(t, b)
				b[i] ^= 1 << bit
			}
			b[i] = ^b[i]
			refused(t, b)
			b[i] = ^b[i]
		}
	}
}

// P15.2: two bytes are exchanged.
func TestExchangedBytes(t *testing.T) {
	for _, m := range []api.Mail{small(), ordinary()} {
		b, plain := encoding(t, m), unsummed(m)
		for i := range b {
			for k := range i {
				if b[i] != b[k] {
					b[i], b[k] = b[k], b[i]
					parse(t, b)
					b[i], b[k] = b[k], b[i]
				}
			}
		}
		for i := range plain {
			for k := range i {
				if plain[i] != plain[k] {
					plain[i], plain[k] = plain[k], plain[i]
					parse(t, summed(plain))
					plain[i], plain[k] = plain[k], plain[i]
				}
			}
		}
	}
}

// P15.2: bytes are taken out and put in.
func TestMissingBytes(t *testing.T) {
	for _, m := range bases() {
		plain := unsummed(m)
		for i := range plain {
			for n := 1; n <= 24 && i+n <= len(plain); n++ {
				parse(t, summed(slices.Concat(plain[:i], plain[i+n:])))
				parse(t, summed(slices.Concat(plain[:i+n], plain[i:])))
				parse(t, summed(slices.Concat(plain[:i], make([]byte, n), plain[i:])))
			}
		}
	}
}

// P15.2: great numbers and wrong ones, wherever they may be.
func TestGreatNumbers(t *testing.T) {
	numbers := []int{
		-1, -2, -8, math.MinInt, math.MinInt + 1, math.MaxInt, math.MaxInt - 1, math.MaxInt - 8, 1 << 62, 1 << 47, 1 << 40, 1 << 32, 1<<32 + 1,
		1 << 31, 1<<31 - 1, 1 << 24, 1 << 16, 1<<13 + 1, 1 << 8, 257, 100, 9, 8, 2, 1, 0,
	}
	for _, m := range bases() {
		plain := unsummed(m)
		for _, n := range append(numbers, len(plain), len(plain)-8, len(plain)+8) {
			var w writer
			w.number(n)
			for i := range plain {
				changed := slices.Clone(plain)
				copy(changed[i:], w.out)
				parse(t, summed(changed))
			}
		}
	}
}

// P15.2: what would be the encoding of a message that is not valid.
func TestEncodedThoughInvalid(t *testing.T) {
	n := 0
	for _, base := range samples() {
		for _, x := range edges() {
			m := clone(base)
			x.change(&m)
			b := summed(unsummed(m))
			if wantValid(m) {
				if back, e := Parse(b); e != api.OK || !same(back, m) {
					t.Fatalf("%s: %v, %+v", x.name, e, back)
				}
				continue
			}
			refused(t, b)
			n++
		}
	}
	if n < 500 {
		t.Errorf("only %d messages are not valid", n)
	}
}

// P15.2: no bytes, nil, and few of them.
func TestShortBytes(t *testing.T) {
	refused(t, nil)
	refused(t, []byte{})
	for x := range 256 {
		refused(t, []byte{byte(x)})
		for y := range 256 {
			refused(t, []byte{byte(x), byte(y)})
		}
	}
	for n := range 2000 {
		for _, x := range []byte{0, 1, 8, 127, 128, 255} {
			b := bytes.Repeat([]byte{x}, n)
			refused(t, b)
			refused(t, summed(b))
		}
	}
	refused(t, make([]byte, 1<<22))
	refused(t, bytes.Repeat([]byte{255}, 1<<22))
}

// P15.2: any bytes at all, some of them with pieces of encodings in them.
func TestAnyBytes(t *testing.T) {
	r := rand.New(rand.NewSource(15))
	var pieces [][]byte
	for _, m := range bases() {
		pieces = append(pieces, unsummed(m))
	}
	for range 60000 {
		b := make([]byte, r.Intn(300))
		r.Read(b)
		for range r.Intn(4) {
			p := pieces[r.Intn(len(pieces))]
			from := r.Intn(len(p))
			copy(b[r.Intn(len(b)+1):], p[from:from+r.Intn(len(p)-from)])
		}
		parse(t, b)
		parse(t, summed(b))
	}
	for range 60000 {
		b := slices.Clone(pieces[r.Intn(len(pieces))])
		for range 1 + r.Intn(4) {
			b[r.Intn(len(b))] = byte(r.Intn(1 + r.Intn(256)))
		}
		parse(t, b)
		parse(t, summed(b))
	}
}

// randomMail answers a valid message.
func randomMail(r *rand.Rand) api.Mail {
	boxes, bodies := goodBoxes(), goodBodies()
	m := api.Mail{ID: 1 + r.Intn(topID), Tenant: r.Intn(tenants), Null: r.Intn(2) == 0, Body: bodies[r.Intn(len(bodies))], Born: r.Intn(topTick + 1)}
	m.Held, m.Told = r.Intn(2) == 0, r.Intn(2) == 0
	if !m.Null {
		m.From = boxes[r.Intn(len(boxes))]
	}
	for _, i := range r.Perm(len(boxes))[:1+r.Intn(mostRcpts)] {
		m.Rcpts = append(m.Rcpts, to(boxes[i], r.Intn(5), r.Intn(topAttempts+1), r.Intn(2*topTick+1), r.Intn(topCode+1)))
	}
	return m
}

// P15.1 to P15.3: messages of all kinds, and what becomes of their encodings when they are put together.
func TestRandomMessages(t *testing.T) {
	r := rand.New(rand.NewSource(51))
	for i := range 4000 {
		m, other := randomMail(r), randomMail(r)
		ask(t, fmt.Sprint(i), m, true)
		a, b := encoding(t, m), encoding(t, other)
		if same(m, other) != bytes.Equal(a, b) {
			t.Fatalf("%+v and %+v: %q and %q", m, other, a, b)
		}
		k := r.Intn(min(len(a), len(b)))
		parse(t, slices.Concat(a[:k], b[k:]))
		parse(t, summed(slices.Concat(a[:k], b[k:max(k, len(b)-8)])))
	}
}

// R2: a later change of what was handed in changes nothing that was answered.
func TestNothingIsKept(t *testing.T) {
	for i := range samples() {
		m := clone(samples()[i])
		b := encoding(t, m)
		rest, e := Rest(m)
		handed := slices.Clone(b)
		back, f := Parse(handed)
		if e != api.OK || f != api.OK {
			t.Fatalf("%v, %v", e, f)
		}
		for k := range m.Rcpts {
			m.Rcpts[k] = api.Rcpt{}
		}
		for k := range handed {
			handed[k] = 'z'
		}
		want := samples()[i]
		if !same(rest, wantRest(want)) || !same(back, want) || !bytes.Equal(b, encoding(t, want)) {
			t.Errorf("%d: what was answered is changed", i)
		}
	}
}

// R2: a later change of what was answered, or of the room behind it, changes nothing else.
func TestAnswersAreTheCallers(t *testing.T) {
	for i := range samples() {
		m := clone(samples()[i])
		b := encoding(t, m)
		for range 2 {
			rest, e := Rest(m)
			back, f := Parse(b)
			if e != api.OK || f != api.OK || !same(rest, wantRest(samples()[i])) || !same(back, samples()[i]) {
				t.Fatalf("%d: %v, %+v, %v, %+v", i, e, rest, f, back)
			}
			other := encoding(t, m)
			if !bytes.Equal(other, b) {
				t.Fatalf("%d: another encoding", i)
			}
			spoil(rest.Rcpts)
			spoil(back.Rcpts)
			spoil(other)
			if !same(clone(m), m) || !slices.Equal(whole(m), whole(clone(samples()[i]))) {
				t.Fatalf("%d: what was handed in is changed", i)
			}
		}
	}
}

// spoil overwrites a list and the room behind it.
func spoil[E any](l []E) {
	clear(l[:cap(l)])
}

// The reader tells its own panics from others, which go on.
func TestOtherPanicsGoOn(t *testing.T) {
	defer func() {
		if p := recover(); p != "other" {
			t.Errorf("%v", p)
		}
	}()
	answered(func() int { panic("other") })
	t.Error("a panic that is no fault was caught")
}
