package disk

import (
	"fmt"
	"math"
	"math/big"
	"math/rand"
	"slices"
	"strings"
	"testing"

	"pouch/api"
)

const most = 1 << 22 // MaxLog, as the limits say it

// call is a call of one of a disk's methods.
type call struct {
	method string
	n      int // the file; of Off the number
	at     int // Read, Write
	k      int // Read, Cut
	text   string
	picks  []int
}

func size(n int) call                   { return call{method: "Size", n: n} }
func read(n, at, k int) call            { return call{method: "Read", n: n, at: at, k: k} }
func write(n, at int, text string) call { return call{method: "Write", n: n, at: at, text: text} }
func cut(n, k int) call                 { return call{method: "Cut", n: n, k: k} }
func sync(n int) call                   { return call{method: "Sync", n: n} }
func off(n int) call                    { return call{method: "Off", n: n} }
func crash(picks ...int) call           { return call{method: "Crash", picks: picks} }

// counted tells whether Off counts the call.
func (c call) counted() bool {
	return c.method == "Write" || c.method == "Cut" || c.method == "Sync"
}

func (c call) String() string {
	return fmt.Sprintf("%s(n %d, at %d, k %d, %s, %v)", c.method, c.n, c.at, c.k, brief(c.text), c.picks)
}

func brief(s string) string {
	return fmt.Sprintf("%d bytes %.40q", len(s), s)
}

// answer is what a call answers; what it does not have is empty.
type answer struct {
	size  int
	text  string
	files []string
	e     api.Errno
}

func (a answer) equal(b answer) bool {
	return a.size == b.size && a.text == b.text && slices.Equal(a.files, b.files) && a.e == b.e
}

func (a answer) String() string {
	l := []string{fmt.Sprint(a.size), brief(a.text)}
	for _, s := range a.files {
		l = append(l, brief(s))
	}
	return strings.Join(append(l, fmt.Sprint("error ", a.e)), ", ")
}

// model does what the chapter's words say: it keeps what was durable last and
// the calls that changed it since, and makes the changes anew for each answer.
type model struct {
	durable [3]string
	later   [3][]call
	off     bool
	laid    bool
	calls   int // of Write, Cut and Sync since Off was laid
	fails   int // the one of them ahead of which the power fails
}

func (m *model) answer(c call) answer {
	if c.counted() {
		m.calls++
		m.off = m.off || m.laid && m.calls == m.fails
	}
	switch c.method {
	case "Off":
		m.lay(c.n)
		return answer{}
	case "Crash":
		m.off = true
		return answer{files: m.found(c.picks)}
	}
	if e := m.refusal(c); e != api.OK {
		return answer{e: e}
	}
	switch c.method {
	case "Size":
		return answer{size: len(m.now(c.n))}
	case "Read":
		return answer{text: m.now(c.n)[c.at : c.at+c.k]}
	case "Sync":
		m.durable[c.n], m.later[c.n] = m.now(c.n), nil
	default:
		m.later[c.n] = append(m.later[c.n], c)
	}
	return answer{}
}

func (m *model) lay(n int) {
	if m.off {
		return
	}
	m.laid, m.calls, m.fails = true, 0, n
	m.off = n < 1
}

// refusal answers the first error that applies to a call of any method that has one.
func (m *model) refusal(c call) api.Errno {
	if m.off {
		return api.ErrPower
	}
	if c.n < 0 || c.n > 2 || c.method == "Read" && c.k < 0 {
		return api.ErrForm
	}
	length := len(m.now(c.n))
	beyond := map[string]bool{
		"Read":  c.at < 0 || sumAbove(c.at, c.k, length),
		"Write": c.at < 0 || c.at > length || sumAbove(c.at, len(c.text), most),
		"Cut":   c.k < 0 || c.k > length,
	}
	if beyond[c.method] {
		return api.ErrLimit
	}
	return api.OK
}

func sumAbove(a, b, limit int) bool {
	sum := new(big.Int).Add(big.NewInt(int64(a)), big.NewInt(int64(b)))
	return sum.Cmp(big.NewInt(int64(limit))) > 0
}

func (m *model) now(n int) string {
	return changed(m.durable[n], m.later[n])
}

func changed(file string, l []call) string {
	for _, c := range l {
		if c.method == "Cut" {
			file = file[:c.k]
			continue
		}
		rest := ""
		if end := c.at + len(c.text); end < len(file) {
			rest = file[end:]
		}
		file = file[:c.at] + c.text + rest
	}
	return file
}

func (m *model) found(picks []int) []string {
	used := 0
	remainder := func(by int) int {
		pick := 0
		if used < len(picks) {
			pick = picks[used]
		}
		used++
		return int(new(big.Int).Mod(big.NewInt(int64(pick)), big.NewInt(int64(by))).Int64())
	}
	var files []string
	for n := range 3 {
		l := m.later[n]
		whole := remainder(len(l) + 1)
		file := changed(m.durable[n], l[:whole])
		if whole < len(l) && l[whole].method == "Write" {
			next := l[whole]
			next.text = next.text[:remainder(len(next.text)+1)]
			file = changed(file, []call{next})
		}
		files = append(files, file)
	}
	return files
}

// lend hands work a copy of l with room behind it, and demands that both are
// left as they were. Then it overwrites them: what was kept of them shows later.
func lend[T comparable](t *testing.T, l []T, mark T, work func([]T)) {
	t.Helper()
	room := []T{mark, mark, mark}
	whole := slices.Concat(l, room)
	work(whole[:len(l)])
	if !slices.Equal(whole, slices.Concat(l, room)) {
		t.Fatalf("what was handed in is %.100v, and was %.100v", whole, l)
	}
	for i := range whole {
		whole[i] = mark
	}
}

// spoil overwrites what was answered, and the room behind it: what the disk keeps of it shows later.
func spoil(b []byte) {
	b = b[:cap(b)]
	for i := range b {
		b[i] = '#'
	}
}

// ask makes the call of d.
func ask(t *testing.T, d *Disk, c call) answer {
	t.Helper()
	var a answer
	switch c.method {
	case "Size":
		a.size, a.e = d.Size(c.n)
	case "Read":
		b, e := d.Read(c.n, c.at, c.k)
		a = answer{text: string(b), e: e}
		spoil(b)
	case "Write":
		lend(t, []byte(c.text), '!', func(b []byte) { a.e = d.Write(c.n, c.at, b) })
	case "Cut":
		a.e = d.Cut(c.n, c.k)
	case "Sync":
		a.e = d.Sync(c.n)
	case "Off":
		d.Off(c.n)
	case "Crash":
		lend(t, c.picks, 77, func(picks []int) { a.files = kept(t, d.Crash(picks)) })
	}
	return a
}

// kept answers the texts of three files, and spoils the files: none of them may share memory with another.
func kept(t *testing.T, files [][]byte) []string {
	t.Helper()
	if len(files) != 3 {
		t.Fatalf("%d files", len(files))
	}
	l := []string{string(files[0]), string(files[1]), string(files[2])}
	for i := range files {
		spoil(files[i])
		for j := i + 1; j < len(files); j++ {
			if string(files[j]) != l[j] {
				t.Fatalf("files %d and %d share memory", i, j)
			}
		}
	}
	clear(files[:cap(files)])
	return l
}

// pair is a disk, and what is expected of it.
type pair struct {
	d     *Disk
	m     *model
	files []string
	calls []call
}

// begin answers a disk that holds the files.
func begin(t *testing.T, files ...string) *pair {
	t.Helper()
	var f [][]byte
	for _, s := range files {
		f = append(f, append(make([]byte, 0, len(s)+3), s...))
	}
	p := &pair{m: new(model), files: files}
	copy(p.m.durable[:], files)
	d, e := New(f)
	if d == nil || e != api.OK {
		t.Fatalf("New of %.100q: %v, %v", files, d != nil, e)
	}
	for i, b := range f {
		if string(b) != files[i] {
			t.Fatalf("New changed file %d", i)
		}
		spoil(b)
	}
	clear(f)
	p.d = d
	return p
}

// do makes the calls one after another, and holds each answer against the one that is expected.
func (p *pair) do(t *testing.T, calls ...call) *pair {
	t.Helper()
	for _, c := range calls {
		p.calls = append(p.calls, c)
		got, want := ask(t, p.d, c), p.m.answer(c)
		if !got.equal(want) {
			t.Fatalf("files %.100q: after %v\n got %v\nwant %v", p.files, p.calls, got, want)
		}
	}
	return p
}

// check does as do, and tells of these calls only where they are answered wrongly.
func (p *pair) check(t *testing.T, calls ...call) {
	t.Helper()
	made := p.calls
	p.do(t, calls...)
	p.calls = made
}

// look holds all of the files against what is expected to be in them.
func (p *pair) look(t *testing.T) *pair {
	t.Helper()
	for n := range 3 {
		p.check(t, size(n), read(n, 0, len(p.m.now(n))))
	}
	return p
}

// doAndLook looks at the files after each of the calls.
func (p *pair) doAndLook(t *testing.T, calls ...call) *pair {
	t.Helper()
	for _, c := range calls {
		p.do(t, c).look(t)
	}
	return p
}

func long(n int) string { return strings.Repeat("L", n) }

func wrongNumbers() []int {
	return []int{math.MinInt, math.MinInt + 1, -1 << 32, -3, -2, -1, 3, 4, 5, 1 << 32, math.MaxInt - 1, math.MaxInt}
}

// places are those in and about a file of the length.
func places(length int) []int {
	l := []int{math.MinInt, math.MinInt + 1, math.MinInt + length, -1 << 32, -length, -2, -1}
	for at := range length + 3 {
		l = append(l, at)
	}
	return append(l, most-1, most, most+1, 1<<31, 1<<32, math.MaxInt-length, math.MaxInt-1, math.MaxInt)
}

// P13.1: a disk has the files that New is given, and three empty ones where it is given none.
func TestNew(t *testing.T) {
	for _, f := range [][][]byte{nil, {}, {nil, nil, nil}, {{}, nil, {}}} {
		d, e := New(f)
		if d == nil || e != api.OK {
			t.Fatalf("New(%v): %v, %v", f, d, e)
		}
		(&pair{d: d, m: new(model)}).look(t).do(t, crash(1, 2, 3))
	}
	for _, files := range [][]string{{"abc", "", "z"}, {"", "a\x00\xff", ""}, {"a", "b", "c"}, {"\r\n", long(100), "x"}} {
		begin(t, files...).look(t)
	}
}

// P13.1: what New is given is durable.
func TestNewIsDurable(t *testing.T) {
	files := []string{"abc", "de", "f"}
	for _, picks := range [][]int{nil, {1, 1, 1}, {5, 4, 3, 2, 1}, {-1, -1, -1}} {
		got := begin(t, files...).d.Crash(picks)
		if string(got[0]) != "abc" || string(got[1]) != "de" || string(got[2]) != "f" {
			t.Errorf("%v: %q", picks, got)
		}
	}
}

// P13.1: other numbers of files, and files too long, are refused with nil and ErrForm.
func TestNewRefuses(t *testing.T) {
	full, above := make([]byte, most), make([]byte, most+1)
	for i, f := range [][][]byte{
		{nil}, {{}}, {{'a'}}, {nil, nil}, {{'a'}, {'b'}}, make([][]byte, 4), {{'a'}, {'b'}, {'c'}, {'d'}}, make([][]byte, 6), make([][]byte, 1<<16),
		{above, nil, nil}, {nil, above, nil}, {nil, nil, above}, {full, full, above}, {full, above, full}, {above, full, full},
		{above, above, above}, {above}, {above, nil}, {nil, nil, nil, above}, {make([]byte, 1<<24), nil, nil},
	} {
		if d, e := New(f); d != nil || e != api.ErrForm {
			t.Errorf("%d: %v, %v", i, d != nil, e)
		}
	}
}

// P13.1: files of MaxLog bytes are taken, each alone and all together.
func TestNewOfFullFiles(t *testing.T) {
	full := long(most)
	for _, files := range [][]string{{full, "", ""}, {"", full, ""}, {"", "", full}, {full, full, full}} {
		begin(t, files...).look(t).do(t, crash())
	}
}

// P13.1, R2: disks that are made of the same files share nothing.
func TestDisksApart(t *testing.T) {
	f := [][]byte{[]byte("abc"), []byte("de"), nil}
	one, _ := New(f)
	two, _ := New(f)
	one.Write(0, 0, []byte("XYZW"))
	one.Cut(1, 0)
	one.Sync(1)
	one.Write(1, 0, []byte("Q"))
	one.Write(2, 0, []byte("P"))
	p := pair{d: two, m: &model{durable: [3]string{"abc", "de", ""}}}
	p.look(t)
	one.Off(0)
	p.look(t).do(t, write(0, 3, "d"), sync(0), cut(1, 1), crash())
	if string(f[0]) != "abc" || string(f[1]) != "de" || len(f[2]) != 0 {
		t.Errorf("what was handed in is %q", f)
	}
}

// P13.1: the length of each file, and ErrForm for a file that there is not.
func TestSize(t *testing.T) {
	d, _ := New([][]byte{[]byte("abc"), nil, []byte("z")})
	for n, want := range []int{3, 0, 1} {
		if k, e := d.Size(n); k != want || e != api.OK {
			t.Errorf("Size(%d): %d, %v", n, k, e)
		}
	}
	for _, n := range wrongNumbers() {
		if k, e := d.Size(n); k != 0 || e != api.ErrForm {
			t.Errorf("Size(%d): %d, %v", n, k, e)
		}
	}
	d.Off(0)
	for _, n := range append(wrongNumbers(), 0, 1, 2) {
		if k, e := d.Size(n); k != 0 || e != api.ErrPower {
			t.Errorf("Size(%d) without power: %d, %v", n, k, e)
		}
	}
}

// P13.1: what Read answers, and the first error that applies.
func TestRead(t *testing.T) {
	d, _ := New([][]byte{[]byte("abc"), nil, []byte("z")})
	for i, c := range []struct {
		n, at, k int
		want     string
		e        api.Errno
	}{
		{0, 0, 3, "abc", api.OK}, {0, 0, 0, "", api.OK}, {0, 1, 1, "b", api.OK}, {0, 1, 2, "bc", api.OK}, {0, 3, 0, "", api.OK},
		{1, 0, 0, "", api.OK}, {2, 0, 1, "z", api.OK}, {2, 1, 0, "", api.OK},
		{0, 0, 4, "", api.ErrLimit}, {0, 3, 1, "", api.ErrLimit}, {0, 4, 0, "", api.ErrLimit}, {0, -1, 0, "", api.ErrLimit}, {0, -1, 1, "", api.ErrLimit},
		{0, -1, 2, "", api.ErrLimit}, {1, 0, 1, "", api.ErrLimit}, {1, 1, 0, "", api.ErrLimit}, {1, -1, 1, "", api.ErrLimit},
		{0, math.MaxInt, math.MaxInt, "", api.ErrLimit}, {0, 1, math.MaxInt, "", api.ErrLimit}, {0, math.MaxInt, 1, "", api.ErrLimit},
		{0, math.MinInt, math.MaxInt, "", api.ErrLimit}, {0, math.MinInt, 0, "", api.ErrLimit},
		{0, 0, -1, "", api.ErrForm}, {0, 1, -1, "", api.ErrForm}, {0, 4, -1, "", api.ErrForm}, {0, -1, -1, "", api.ErrForm},
		{0, math.MinInt, math.MinInt, "", api.ErrForm}, {0, math.MaxInt, math.MinInt, "", api.ErrForm},
		{-1, 0, 0, "", api.ErrForm}, {3, 0, 0, "", api.ErrForm}, {3, -1, 9, "", api.ErrForm}, {-1, 9, -1, "", api.ErrForm}, {math.MaxInt, 0, 0, "", api.ErrForm},
	} {
		if b, e := d.Read(c.n, c.at, c.k); string(b) != c.want || e != c.e {
			t.Errorf("%d: %q, %v", i, b, e)
		}
	}
}

// P13.1: all places and lengths, of all files, with the power on and off.
func TestReadEverywhere(t *testing.T) {
	for _, files := range [][]string{{"abcd", "", "z"}, {"", "ab", "wxyz"}} {
		on, dark := begin(t, files...), begin(t, files...).do(t, off(0))
		for _, n := range append(wrongNumbers(), 0, 1, 2) {
			for _, at := range places(4) {
				for _, k := range places(4) {
					on.check(t, read(n, at, k))
					dark.check(t, read(n, at, k))
				}
			}
		}
		on.look(t)
	}
}

// P13.1, R2: what Read answers is the caller's own.
func TestReadIsACopy(t *testing.T) {
	d, _ := New([][]byte{[]byte("abcdef"), nil, nil})
	one, _ := d.Read(0, 1, 3)
	two, _ := d.Read(0, 1, 3)
	_ = append(one, "XYZ"...)
	one[0], one[2] = '1', '2'
	if all, _ := d.Read(0, 0, 6); string(all) != "abcdef" || string(two) != "bcd" {
		t.Errorf("%q, %q", all, two)
	}
	d.Write(0, 0, []byte("______"))
	d.Cut(0, 0)
	if string(one) != "1c2" || string(two) != "bcd" {
		t.Errorf("%q, %q", one, two)
	}
}

// P13.2: what is written, cut and synced, call by call.
func TestChanges(t *testing.T) {
	d, _ := New([][]byte{[]byte("abc"), nil, []byte("z")})
	for i, c := range []struct {
		call call
		e    api.Errno
		want string
	}{
		{write(0, 0, "X"), api.OK, "Xbc||z"},
		{write(0, 2, "YZ"), api.OK, "XbYZ||z"},
		{write(0, 4, "1"), api.OK, "XbYZ1||z"},
		{write(0, 5, ""), api.OK, "XbYZ1||z"},
		{write(0, 0, ""), api.OK, "XbYZ1||z"},
		{write(0, 6, ""), api.ErrLimit, "XbYZ1||z"},
		{write(0, 6, "a"), api.ErrLimit, "XbYZ1||z"},
		{write(0, -1, "abc"), api.ErrLimit, "XbYZ1||z"},
		{write(0, math.MinInt, ""), api.ErrLimit, "XbYZ1||z"},
		{write(0, math.MaxInt, "abc"), api.ErrLimit, "XbYZ1||z"},
		{write(1, 0, "mno"), api.OK, "XbYZ1|mno|z"},
		{write(2, 1, "y"), api.OK, "XbYZ1|mno|zy"},
		{write(3, 0, "y"), api.ErrForm, "XbYZ1|mno|zy"},
		{write(-1, -1, ""), api.ErrForm, "XbYZ1|mno|zy"},
		{write(math.MaxInt, math.MaxInt, "y"), api.ErrForm, "XbYZ1|mno|zy"},
		{cut(0, 5), api.OK, "XbYZ1|mno|zy"},
		{cut(0, 6), api.ErrLimit, "XbYZ1|mno|zy"},
		{cut(0, -1), api.ErrLimit, "XbYZ1|mno|zy"},
		{cut(0, math.MaxInt), api.ErrLimit, "XbYZ1|mno|zy"},
		{cut(0, math.MinInt), api.ErrLimit, "XbYZ1|mno|zy"},
		{cut(3, 0), api.ErrForm, "XbYZ1|mno|zy"},
		{cut(-1, -1), api.ErrForm, "XbYZ1|mno|zy"},
		{cut(0, 2), api.OK, "Xb|mno|zy"},
		{write(0, 3, "c"), api.ErrLimit, "Xb|mno|zy"},
		{write(0, 2, "c"), api.OK, "Xbc|mno|zy"},
		{sync(0), api.OK, "Xbc|mno|zy"},
		{sync(3), api.ErrForm, "Xbc|mno|zy"},
		{sync(-1), api.ErrForm, "Xbc|mno|zy"},
		{sync(math.MinInt), api.ErrForm, "Xbc|mno|zy"},
		{cut(1, 0), api.OK, "Xbc||zy"},
		{cut(1, 0), api.OK, "Xbc||zy"},
		{cut(1, 1), api.ErrLimit, "Xbc||zy"},
		{write(1, 1, "a"), api.ErrLimit, "Xbc||zy"},
	} {
		if got := ask(t, d, c.call); got.e != c.e {
			t.Errorf("%d: %v: %v, want %v", i, c.call, got.e, c.e)
		}
		if got := whole(t, d); got != c.want {
			t.Errorf("%d: %v: %q, want %q", i, c.call, got, c.want)
		}
	}
}

// whole answers what is in the three files of d.
func whole(t *testing.T, d *Disk) string {
	t.Helper()
	var l []string
	for n := range 3 {
		k, e := d.Size(n)
		b, f := d.Read(n, 0, k)
		if e != api.OK || f != api.OK {
			t.Fatalf("file %d: %v, %v", n, e, f)
		}
		l = append(l, string(b))
	}
	return strings.Join(l, "|")
}

// P13.2: Write of nil is one of no bytes.
func TestWriteOfNil(t *testing.T) {
	d, _ := New([][]byte{[]byte("abc"), nil, nil})
	for _, c := range []struct {
		n, at int
		e     api.Errno
	}{{0, 0, api.OK}, {0, 3, api.OK}, {0, 4, api.ErrLimit}, {1, 0, api.OK}, {3, 0, api.ErrForm}} {
		if e := d.Write(c.n, c.at, nil); e != c.e {
			t.Errorf("%v: %v", c, e)
		}
	}
	if got := whole(t, d); got != "abc||" {
		t.Errorf("%q", got)
	}
}

// changes are the calls of Write, Cut and Sync at all places in and about a file of four bytes.
func changes(n int) []call {
	l := []call{sync(n)}
	for _, at := range places(4) {
		l = append(l, cut(n, at))
		for k := range 7 {
			l = append(l, write(n, at, "UVWXYZ"[:k]))
		}
	}
	return l
}

// P13.2: each change of each file, with the power on and off, and what a crash leaves of it.
func TestEachChange(t *testing.T) {
	for _, files := range [][]string{{"abcd", "", "z"}, {"", "ab", "wxyz"}} {
		for _, n := range append(wrongNumbers(), 0, 1, 2) {
			for _, c := range changes(n) {
				begin(t, files...).doAndLook(t, c).do(t, crash(1, 1, 1), crash(0, 2, 0, 2), crash(0, 0, 0, 1))
				begin(t, files...).do(t, off(0), c, crash(1, 1, 1))
			}
		}
	}
}

// P13.2: a file of MaxLog bytes, and none of more.
func TestChangesAtTheLimit(t *testing.T) {
	for n := range 3 {
		p := begin(t)
		p.do(t, write(n, 0, long(most+1)), size(n), write(n, 0, long(most)), size(n), write(n, most, ""), write(n, most, "a"), write(n, most+1, ""))
		p.do(t, write(n, most-1, "a"), write(n, most-1, "ab"), write(n, most-2, "ab"), write(n, 0, "ab"), write(n, 1, long(most)), size(n))
		p.do(t, read(n, most, 0), read(n, most, 1), read(n, most-2, 2), read(n, most-2, 3), cut(n, most+1), cut(n, most), sync(n))
		p.do(t, write(n, most-1, "XY"), cut(n, most-1), write(n, most-1, "XY"), write(n, most-1, "X"), size(n), read(n, most-4, 4))
		p.do(t, crash(), crash(1), crash(0, 0, 2), crash(2), crash(2, 2, 2, 2, 2))
	}
}

// P13.2: the longest file is grown bit by bit, and by no more than the limit.
func TestGrowthToTheLimit(t *testing.T) {
	d, _ := New(nil)
	part := []byte(long(1 << 16))
	for at := 0; at < most; at += len(part) {
		if e := d.Write(1, at, part); e != api.OK {
			t.Fatalf("at %d: %v", at, e)
		}
	}
	for _, at := range []int{most, most - 1, most - len(part) + 1} {
		if e := d.Write(1, at, part); e != api.ErrLimit {
			t.Errorf("at %d: %v", at, e)
		}
	}
	if k, e := d.Size(1); k != most || e != api.OK {
		t.Errorf("%d, %v", k, e)
	}
}

// P13.1, P13.2: a refused call changes nothing, not even what a crash leaves.
func TestRefusedCallsChangeNothing(t *testing.T) {
	script := []call{write(0, 3, "de"), cut(0, 4), write(1, 0, "mn"), sync(1), write(0, 1, "XYZW"), cut(1, 1), write(2, 0, "q")}
	refused := []call{
		write(0, 9, "a"), write(0, -1, "a"), write(3, 0, "a"), write(-1, 0, "a"), write(0, 0, long(most+1)), cut(0, 9), cut(0, -1), cut(3, 0), cut(-1, 0),
		sync(3), sync(-1), size(3), size(-1), read(0, 0, 9), read(0, 0, -1), read(0, -1, 0), read(3, 0, 0), write(math.MaxInt, 0, "a"), write(0, math.MaxInt, "a"),
	}
	for at := range len(script) + 1 {
		p := begin(t, "abc", "", "z").do(t, script[:at]...)
		for _, c := range refused {
			if p.m.refusal(c) == api.OK {
				t.Fatalf("%v is not one to refuse", c)
			}
			p.doAndLook(t, c)
		}
		p.doAndLook(t, script[at:]...)
		for first := range 5 {
			for second := range 6 {
				p.check(t, crash(first, second, 1, 0, 1), crash(first, 1, second))
			}
		}
	}
}

// scripts hands out all lists of at most n of the calls.
func scripts(calls []call, n int, use func([]call)) {
	var extend func(l []call)
	extend = func(l []call) {
		use(l)
		if len(l) == n {
			return
		}
		for _, c := range calls {
			extend(append(l[:len(l):len(l)], c))
		}
	}
	extend(nil)
}

// P13.1 to P13.4: all short scripts of one file, and each crash of theirs.
func TestShortScripts(t *testing.T) {
	calls := []call{write(0, 0, ""), write(0, 0, "X"), write(0, 1, "YZ"), write(0, 2, "W"), write(0, 3, "V"), cut(0, 0), cut(0, 1), cut(0, 3), sync(0)}
	scripts(calls, 4, func(l []call) {
		p := begin(t, "ab", "", "c").doAndLook(t, l...)
		for first := range len(p.m.later[0]) + 1 {
			for second := range 3 {
				p.check(t, crash(first, second, 1))
			}
		}
	})
}

// P13.1 to P13.4: all short scripts of two files, which do not touch each other.
func TestShortScriptsOfTwoFiles(t *testing.T) {
	calls := []call{write(1, 0, "X"), write(1, 1, "YZ"), cut(1, 0), sync(1), write(2, 0, "PQ"), write(2, 2, "R"), cut(2, 1), sync(2)}
	scripts(calls, 4, func(l []call) {
		p := begin(t, "ab", "c", "de").doAndLook(t, l...)
		p.do(t, crash(), crash(1, 0, 1, 1), crash(0, 1, 2, 2, 1), crash(0, 2, 1, 1), crash(0, 0, 0, 1), crash(0, 3, 2, 1), crash(0, -1, -1, -1))
	})
}

// mixed are calls of all kinds, some of them refused.
func mixed() []call {
	return []call{
		write(0, 0, "abc"), size(0), sync(0), read(0, 0, 2), write(0, 9, "no"), cut(3, 0), sync(-1), write(1, 0, "de"),
		read(0, 9, 9), cut(0, 2), size(7), cut(0, 7), write(0, 2, "XY"), sync(1), write(1, 2, "f"),
	}
}

// P13.3: the power fails ahead of the call that Off numbers, whatever the calls answer.
func TestOff(t *testing.T) {
	for n := -3; n < 9; n++ {
		d, _ := New(nil)
		d.Off(n)
		for i, c := range []struct {
			call call
			e    api.Errno
		}{{write(0, 0, "a"), api.OK}, {cut(0, 9), api.ErrLimit}, {sync(7), api.ErrForm}, {write(3, 0, ""), api.ErrForm}, {sync(0), api.OK}, {cut(0, 0), api.OK}, {write(0, -1, "a"), api.ErrLimit}} {
			for _, look := range []call{size(0), read(0, 0, 0), size(3), read(0, 9, 9)} {
				if dark := ask(t, d, look).e == api.ErrPower; dark != (n <= i) {
					t.Errorf("Off(%d), ahead of call %d: %v: %v", n, i+1, look, dark)
				}
			}
			want := c.e
			if i+1 >= n {
				want = api.ErrPower
			}
			if got := ask(t, d, c.call); got.e != want {
				t.Errorf("Off(%d), call %d: %v, want %v", n, i+1, got.e, want)
			}
		}
	}
}

// P13.3: Off at each place of a script, at each number, and what a crash leaves then.
func TestOffEverywhere(t *testing.T) {
	script := mixed()
	for at := range len(script) + 1 {
		for _, n := range append(places(len(script)), 5, 6) {
			p := begin(t, "ab", "", "").do(t, script[:at]...).do(t, off(n)).do(t, script[at:]...).look(t)
			p.do(t, crash(), crash(1, 1, 1), crash(0, 1, 0, 1), crash(2, 2, 2, 2))
		}
	}
}

// P13.3: a later Off replaces an earlier one as long as the power is on, and not once it is off.
func TestOffAnew(t *testing.T) {
	script := mixed()
	numbers := []int{math.MinInt, -1, 0, 1, 2, 3, 4, 7, 12, 13, math.MaxInt}
	for at := range len(script) + 1 {
		for _, first := range numbers {
			for _, second := range numbers {
				p := begin(t, "ab", "", "").do(t, off(first)).do(t, script[:at]...).do(t, off(second))
				p.do(t, script[at:]...).look(t).do(t, crash(1, 1, 1, 1))
			}
		}
	}
	d, _ := New(nil)
	d.Off(2)
	d.Off(4)
	d.Off(3)
	for i, want := range []api.Errno{api.OK, api.OK, api.ErrPower, api.ErrPower} {
		if e := d.Sync(0); e != want {
			t.Errorf("call %d: %v", i+1, e)
		}
	}
	d.Off(100)
	if e := d.Sync(0); e != api.ErrPower {
		t.Errorf("the power came back: %v", e)
	}
}

// P13.3: the power fails ahead of the call, so that nothing of it is done.
func TestOffAheadOfTheCall(t *testing.T) {
	for _, c := range []struct {
		last  call
		picks []int
		want  string
	}{
		{write(0, 2, "XYZ"), []int{1}, "abc"}, {write(0, 2, "XYZ"), []int{0, 3}, "abc"}, {write(0, 2, "XYZ"), []int{2}, "ab"},
		{cut(0, 0), []int{1}, "abc"}, {cut(0, 0), []int{2}, "ab"}, {sync(0), nil, "ab"}, {sync(0), []int{1}, "abc"},
	} {
		d, _ := New([][]byte{[]byte("ab"), nil, nil})
		d.Off(2)
		if e := d.Write(0, 2, []byte("c")); e != api.OK {
			t.Errorf("%v: %v", c.last, e)
		}
		if a := ask(t, d, c.last); a.e != api.ErrPower {
			t.Errorf("%v: %v", c.last, a.e)
		}
		if got := string(d.Crash(c.picks)[0]); got != c.want {
			t.Errorf("%v, %v: %q, want %q", c.last, c.picks, got, c.want)
		}
	}
}

// P13.3: the chapter's example.
func TestExample(t *testing.T) {
	for _, c := range []struct {
		picks []int
		want  string
	}{{[]int{0, 2}, "abcde"}, {nil, "abc"}} {
		d, _ := New(nil)
		d.Write(0, 0, []byte("abc"))
		d.Sync(0)
		d.Write(0, 3, []byte("def"))
		if got := string(d.Crash(c.picks)[0]); got != c.want {
			t.Errorf("%v: %q, want %q", c.picks, got, c.want)
		}
	}
}

// P13.3: picks are used one after another: one a file, and one more where the next change is a Write.
func TestCrash(t *testing.T) {
	script := []call{
		write(0, 3, "def"), cut(0, 4), write(0, 0, "XYZW12"), // over what was there, and beyond
		cut(1, 1), write(1, 1, "mn"),
		write(2, 0, ""), write(2, 1, "new"),
	}
	for i, c := range []struct {
		picks []int
		want  string
	}{
		{nil, "abc|gh|z"},
		{[]int{0, 1}, "abcd|gh|z"},
		{[]int{0, 3}, "abcdef|gh|z"},
		{[]int{0, 4}, "abc|gh|z"},
		{[]int{1, 1}, "abcdef|g|z"},
		{[]int{1, 1, 2}, "abcdef|gmn|z"},
		{[]int{2, 1}, "Xbcd|gh|z"},
		{[]int{2, 4}, "XYZW|gh|z"},
		{[]int{2, 5}, "XYZW1|gh|z"},
		{[]int{2, 6, 2, 2}, "XYZW12|gmn|znew"},
		{[]int{2, 6, 2, 1, 2}, "XYZW12|gmn|zne"},
		{[]int{2, 6, 2, 0, 2}, "XYZW12|gmn|z"},
		{[]int{3, 1, 1, 1, 1}, "XYZW12|gm|zn"},
		{[]int{3, 0, 1}, "XYZW12|gh|z"},
		{[]int{3, 0, 1, 1}, "XYZW12|gh|zn"},
		{[]int{3, 2, 2, 9, 9}, "XYZW12|gmn|znew"},
		{[]int{4, 2, 3}, "abcde|gh|z"},
		{[]int{-1, -1, -1}, "XYZW12|gmn|znew"},
		{[]int{-2, -1, -1, -1}, "XYZW12|gmn|znew"},
		{[]int{-2, -2, -2, -2, -2}, "XYZW1|gm|z"},
		{[]int{-2, -2, -2, -2, -2, -2, -2}, "XYZW1|gm|zne"},
		{[]int{-3, -3}, "abcdef|gh|z"},
		{[]int{-4, -2, -3, -3, -2}, "abcde|gh|z"},
		{[]int{math.MaxInt, math.MaxInt, math.MaxInt}, "XYZW12|gm|z"},
		{[]int{math.MinInt, math.MinInt, math.MinInt, math.MinInt}, "abc|gm|z"},
	} {
		p := begin(t, "abc", "gh", "z").do(t, script...)
		if got := strings.Join(ask(t, p.d, crash(c.picks...)).files, "|"); got != c.want {
			t.Errorf("%d: %v: %q, want %q", i, c.picks, got, c.want)
		}
		p.do(t, crash(c.picks...))
	}
}

// P13.3: each remainder of each number of changes, of numbers above and below 0 and at the ends of int.
func TestPicks(t *testing.T) {
	picks := []int{math.MinInt, math.MinInt + 1, math.MinInt + 2, -1 << 32, 1 << 31, 1 << 32, math.MaxInt - 2, math.MaxInt - 1, math.MaxInt}
	for pick := -13; pick <= 13; pick++ {
		picks = append(picks, pick)
	}
	for count := range 6 {
		for n := range 3 {
			p := begin(t, "abc", "abc", "abc").do(t, write(n, 3, "lost"), cut(n, 3), sync(n))
			for i := range count {
				p.do(t, write(n, 3+i, "defgh"[i:]))
			}
			for _, first := range picks {
				p.check(t, crash(first), crash(0, first), crash(0, 0, first))
				for _, second := range picks {
					p.check(t, crash(slices.Concat(make([]int, n), []int{first, second})...))
				}
			}
		}
	}
}

// P13.3: the next change may be a Write or a Cut, over what was there, at the end, or beyond it.
func TestNextChange(t *testing.T) {
	calls := []call{write(0, 0, ""), write(0, 3, ""), write(0, 0, "X"), write(0, 0, "XYZ"), write(0, 0, "UVWXYZ"), write(0, 1, "X"), write(0, 2, "XYZ"), write(0, 3, "XYZ"), cut(0, 0), cut(0, 2), cut(0, 3)}
	for _, c := range calls {
		for n := range 3 {
			for _, synced := range []bool{false, true} {
				c.n = n
				p := begin(t, "", "", "").do(t, write(n, 0, "abc"))
				if synced {
					p.do(t, sync(n))
				}
				p.doAndLook(t, c)
				for first := range 3 {
					for second := range 8 {
						for third := range 3 {
							p.check(t, crash(first, second, third), crash(0, first, second, third), crash(0, 0, first, second, third))
						}
					}
				}
			}
		}
	}
}

// P13.3: of many changes as many are made as the pick says.
func TestManyChanges(t *testing.T) {
	const count = 300
	p := begin(t)
	for i := range count {
		p.do(t, write(1, i, string(rune('a'+i%26))))
	}
	p.look(t)
	for pick := -count - 2; pick < count+3; pick++ {
		want := (pick + 2*count + 2) % (count + 1)
		got := p.d.Crash([]int{0, pick, 1})
		if next := min(want+1, count); len(got[1]) != next || string(got[1]) != changed("", p.m.later[1][:next]) {
			t.Fatalf("%d: %d bytes, want %d", pick, len(got[1]), next)
		}
	}
}

// P13.3: asked once more, with other picks, Crash chooses anew from the same changes.
func TestCrashAgain(t *testing.T) {
	d, _ := New([][]byte{[]byte("abc"), []byte("gh"), nil})
	d.Write(0, 3, []byte("def"))
	d.Write(0, 0, []byte("XY"))
	d.Cut(1, 0)
	for i, c := range []struct {
		picks []int
		want  string
	}{{nil, "abc|gh|"}, {[]int{2, 1}, "XYcdef||"}, {nil, "abc|gh|"}, {[]int{0, 2}, "abcde|gh|"}, {[]int{2, 1}, "XYcdef||"}, {[]int{1, 1, 1}, "Xbcdef||"}, {[]int{0, 2}, "abcde|gh|"}} {
		if got := strings.Join(kept(t, d.Crash(c.picks)), "|"); got != c.want {
			t.Errorf("%d: %v: %q, want %q", i, c.picks, got, c.want)
		}
	}
}

// P13.3: behind Crash each call answers ErrPower, whatever it is given, and changes nothing.
func TestDarkBehindCrash(t *testing.T) {
	for _, n := range []int{math.MinInt, -1, 0, 1, 2, 3, math.MaxInt} {
		for _, at := range []int{math.MinInt, -1, 0, 2, 3, 4, most + 1, math.MaxInt} {
			d, _ := New([][]byte{[]byte("abc"), nil, nil})
			d.Write(0, 3, []byte("def"))
			d.Crash(nil)
			for _, c := range []call{size(n), read(n, at, 0), read(n, 0, at), write(n, at, ""), write(n, at, "abc"), write(n, 0, long(100)), cut(n, at), sync(n)} {
				if a := ask(t, d, c); !a.equal(answer{e: api.ErrPower}) {
					t.Errorf("%v: %v", c, a)
				}
				d.Off(at)
			}
			if got := kept(t, d.Crash([]int{0, 1})); !slices.Equal(got, []string{"abcd", "", ""}) {
				t.Errorf("Crash leaves %q", got)
			}
		}
	}
}

// P13.3: a disk that is made of what Crash left holds it, durably.
func TestDiskOfACrash(t *testing.T) {
	for first := range 4 {
		for second := range 5 {
			p := begin(t, "abc", "", "z").do(t, write(0, 3, "def"), cut(0, 4), write(0, 0, "XYZW"), write(2, 0, "new"))
			left := p.d.Crash([]int{first, second, 1, 1, 1})
			d, e := New(left)
			if e != api.OK {
				t.Fatalf("%v", e)
			}
			if got := d.Crash([]int{1, 1, 1, 1}); !slices.EqualFunc(got, left, slices.Equal) {
				t.Errorf("%q, and then %q", left, got)
			}
		}
	}
}

// P13.3, R2: what Crash answers is the caller's own, and nothing of it is shared.
func TestCrashIsACopy(t *testing.T) {
	d, _ := New([][]byte{[]byte("abc"), []byte("abc"), []byte("abc")})
	d.Cut(0, 1)
	d.Write(1, 3, []byte("def"))
	d.Write(2, 0, []byte("XYZ"))
	one, two := d.Crash([]int{1, 1, 1}), d.Crash([]int{1, 1, 1})
	want := fmt.Sprintf("%q", two)
	for i, b := range one {
		spoil(b)
		one[i] = append(b, "more"...)
	}
	if got := fmt.Sprintf("%q", two); got != want || want != `["a" "abcdef" "XYZ"]` {
		t.Errorf("%s, and then %s", want, got)
	}
	if got := fmt.Sprintf("%q", d.Crash([]int{1, 1, 1})); got != want {
		t.Errorf("%s, and then %s", want, got)
	}
}

// P13.4: changes that were synced survive each crash, whatever was changed later.
func TestSyncedSurvives(t *testing.T) {
	before := [][]call{{}, {write(1, 0, "XYZ")}, {cut(1, 1)}, {cut(1, 0), write(1, 0, "Q")}, {write(1, 2, "cd"), write(1, 1, ""), cut(1, 3)}, {write(1, 0, "1"), sync(1), write(1, 1, "2")}}
	later := [][]call{{}, {write(1, 0, "lost")}, {cut(1, 0)}, {write(0, 0, "other"), sync(0)}, {sync(0), sync(2)}, {cut(1, 0), write(1, 0, "lost")}}
	for _, first := range before {
		for _, second := range later {
			p := begin(t, "a", "ab", "c").do(t, first...).do(t, sync(1))
			synced := p.m.now(1)
			p.do(t, second...)
			if got := p.d.Crash(nil); string(got[1]) != synced {
				t.Errorf("%v: %q, want %q", p.calls, got[1], synced)
			}
			if got := p.d.Crash([]int{0, 0, 0, 0, 0, 0}); string(got[1]) != synced {
				t.Errorf("%v: %q, want %q", p.calls, got[1], synced)
			}
		}
		for pick := -9; pick < 9; pick++ {
			p := begin(t, "a", "ab", "c").do(t, first...).do(t, sync(1), write(0, 0, "no"), sync(0))
			if got := p.d.Crash(slices.Repeat([]int{pick}, 6)); string(got[1]) != p.m.now(1) || string(got[0]) != "no" || string(got[2]) != "c" {
				t.Errorf("%v: %d: %q", p.calls, pick, got)
			}
		}
	}
}

// P13.4: the file begins at its last Sync, not at an earlier one, and each file at its own.
func TestLastSync(t *testing.T) {
	d, _ := New(nil)
	for _, s := range []string{"first", "second", "third"} {
		d.Write(0, 0, []byte(s))
		d.Write(2, 0, []byte(s))
		d.Sync(0)
	}
	d.Write(0, 0, []byte("fourth"))
	if got := d.Crash(nil); string(got[0]) != "thirdd" || string(got[2]) != "" {
		t.Errorf("%q", got)
	}
	if got := d.Crash([]int{1, 0, 2}); string(got[0]) != "fourth" || string(got[2]) != "second" {
		t.Errorf("%q", got)
	}
}

// chance draws a call, most of them ones that are not refused.
func chance(r *rand.Rand, m *model) call {
	n := r.Intn(3)
	length := len(m.now(n))
	if r.Intn(12) == 0 {
		n = r.Intn(7) - 2
	}
	at := r.Intn(length+3) - 1
	switch r.Intn(12) {
	case 0:
		return size(n)
	case 1, 2:
		return read(n, at, r.Intn(length+3)-1)
	case 3, 4:
		return cut(n, at)
	case 5, 6:
		return sync(n)
	case 7:
		if r.Intn(8) == 0 {
			return off(r.Intn(12) - 1)
		}
	case 8, 9:
		at = length
	}
	b := make([]byte, r.Intn(9))
	r.Read(b)
	return write(n, at, string(b))
}

// P13.1 to P13.4: long scripts drawn by chance, and some crashes behind each.
func TestScriptsByChance(t *testing.T) {
	r := rand.New(rand.NewSource(13))
	for range 1500 {
		p := begin(t, long(r.Intn(4)), long(r.Intn(20)), long(r.Intn(9)))
		for range r.Intn(60) {
			p.doAndLook(t, chance(r, p.m))
		}
		for range 6 {
			var picks []int
			for range r.Intn(8) {
				picks = append(picks, int(r.Uint64())>>r.Intn(64))
			}
			p.do(t, crash(picks...))
		}
	}
}

// A panic that is no fault is a mistake of the program, and is not hidden.
func TestOtherPanicsGoOn(t *testing.T) {
	defer func() {
		if p := recover(); p != "a mistake" {
			t.Errorf("%v", p)
		}
	}()
	catch(func() { panic("a mistake") })
	t.Error("the panic is gone")
}
