package log

import (
	"fmt"
	"math"
	"math/rand"
	"slices"
	"strings"
	"testing"

	"pouch/api"
	"pouch/disk"
)

// The limits, as the chapter and the table of limits say them.
const (
	longest = 1 << 14 // bytes of a record
	largest = 1 << 21 // MaxLog / 2
	beside  = 16      // what a record counts beside its length
)

// call is a call of one of a log's methods that answer an error.
type call struct {
	method string
	text   string
	list   []string
}

func add(s string) call         { return call{method: "Append", text: s} }
func sync() call                { return call{method: "Sync"} }
func reset(list ...string) call { return call{method: "Reset", list: list} }

func (c call) String() string {
	switch c.method {
	case "Append":
		return "Append " + brief([]string{c.text})
	case "Reset":
		return "Reset " + brief(c.list)
	}
	return c.method
}

func brief(l []string) string {
	return fmt.Sprintf("%d records %.60q", len(l), l[:min(len(l), 4)])
}

func long(n int) string { return strings.Repeat("L", n) }

func sizeOf(l []string) int {
	n := 0
	for _, s := range l {
		n += len(s) + beside
	}
	return n
}

// key answers a text that no other list has.
func key(l []string) string {
	var b strings.Builder
	for _, s := range l {
		fmt.Fprintf(&b, "%d:%s", len(s), s)
	}
	return b.String()
}

// life is a log on a disk, and what is expected of both.
type life struct {
	d       *disk.Disk
	l       *Log
	records []string
	lost    bool            // an error of the disk was answered
	can     map[string]bool // the logs that may be found after a crash
	calls   []call
}

// onDisk answers a disk that has the files.
func onDisk(t *testing.T, files [][]byte) *disk.Disk {
	t.Helper()
	d, e := disk.New(files)
	if e != api.OK {
		t.Fatalf("the disk: %v", e)
	}
	return d
}

// open answers the log of d, whose records it looks at only.
func open(t *testing.T, d *disk.Disk) *life {
	t.Helper()
	l, e := Open(d)
	if l == nil || e != api.OK {
		t.Fatalf("Open: %v, %v", l != nil, e)
	}
	p := &life{d: d, l: l, records: l.All()}
	p.can = map[string]bool{key(p.records): true}
	return p
}

// begin answers a log on an empty disk.
func begin(t *testing.T) *life {
	t.Helper()
	return open(t, onDisk(t, nil)).look(t)
}

func (p *life) look(t *testing.T) *life {
	t.Helper()
	if got := p.l.All(); !slices.Equal(got, p.records) {
		t.Fatalf("after %v: All is %s, want %s", p.calls, brief(got), brief(p.records))
	}
	return p
}

// refusal answers the first error that applies ahead of one of the disk.
func (p *life) refusal(c call) api.Errno {
	if p.lost {
		return api.ErrPower
	}
	for _, s := range append([]string{c.text}, c.list...) {
		if len(s) > longest {
			return api.ErrForm
		}
	}
	if sizeOf(p.next(c)) > largest {
		return api.ErrFull
	}
	return api.OK
}

// next answers the records behind a call that is not refused.
func (p *life) next(c call) []string {
	switch c.method {
	case "Append":
		return append(slices.Clip(p.records), c.text)
	case "Reset":
		return c.list
	}
	return p.records
}

// ask makes the call. What it is handed is overwritten then: what was kept of it shows later.
func (p *life) ask(t *testing.T, c call) api.Errno {
	t.Helper()
	switch c.method {
	case "Append":
		return p.l.Append(c.text)
	case "Sync":
		return p.l.Sync()
	}
	whole := slices.Concat(c.list, []string{"room", "room"})
	e := p.l.Reset(whole[:len(c.list)])
	if !slices.Equal(whole, slices.Concat(c.list, []string{"room", "room"})) {
		t.Fatalf("%v changed what it was handed", c)
	}
	for i := range whole {
		whole[i] = "spoilt"
	}
	return e
}

// make makes the calls one after another, and holds each answer against the one that is expected.
func (p *life) make(t *testing.T, calls ...call) *life {
	t.Helper()
	for _, c := range calls {
		p.calls = append(p.calls, c)
		want, next := p.refusal(c), p.next(c)
		got := p.ask(t, c)
		if want == api.OK {
			_, want = p.d.Size(0) // ErrPower where the power is off
			p.pass(c, next, want)
		}
		if got != want {
			t.Fatalf("after %v: %v, want %v", p.calls, got, want)
		}
	}
	return p
}

// pass takes down what a call that was not refused did.
func (p *life) pass(c call, next []string, e api.Errno) {
	if e != api.OK {
		p.lost = true
		p.can[key(next)] = true
		return
	}
	if c.method != "Append" {
		clear(p.can)
	}
	p.records = slices.Clone(next)
	p.can[key(next)] = true
}

// do looks at the records after each call as well.
func (p *life) do(t *testing.T, calls ...call) *life {
	t.Helper()
	for _, c := range calls {
		p.make(t, c).look(t)
	}
	return p
}

// found opens what a crash left, which must be one of the logs that may be found, and finds it again.
func (p *life) found(t *testing.T, files [][]byte) *life {
	t.Helper()
	q := open(t, onDisk(t, files))
	if !p.can[key(q.records)] {
		t.Fatalf("after %v: a crash left %s", p.calls, brief(q.records))
	}
	q.again(t)
	return q
}

// again opens the log of the same disk again.
func (p *life) again(t *testing.T) {
	t.Helper()
	if q := open(t, p.d); key(q.records) != key(p.records) {
		t.Fatalf("after %v: opened again, %s, and once %s", p.calls, brief(q.records), brief(p.records))
	}
}

// left calls work with each of the different sets of files that a crash may leave, by many picks.
func (p *life) left(first, second, third []int, work func([][]byte)) {
	seen := map[string]bool{}
	for _, x := range first {
		for _, y := range second {
			for _, z := range third {
				files := p.d.Crash([]int{x, y, z, y, x})
				k := key([]string{string(files[0]), string(files[1]), string(files[2])})
				if !seen[k] {
					seen[k] = true
					work(files)
				}
			}
		}
	}
}

func to(n int) []int {
	var l []int
	for i := range n {
		l = append(l, i)
	}
	return l
}

// someScripts are calls of all methods, with a log of none, one and more records ahead of each of them.
func someScripts() [][]call {
	return [][]call{
		{},
		{sync()},
		{add("a"), sync(), add("bc")},
		{add(""), add("a"), add("\x00\x00"), sync(), add(""), add("d")},
		{reset(), add("a"), sync()},
		{add("a"), reset("b", "", "cd"), add("e"), sync(), add("f")},
		{add("a"), sync(), add("b"), reset("c"), add("d"), reset("e"), add("f"), sync(), reset()},
		{reset("a"), reset("b"), add("x"), reset("c"), sync(), reset("d", "e")},
		{add("a"), add("b"), reset(), add("c"), reset(), add("d"), sync(), sync()},
		{add(long(40)), sync(), reset("short"), add(long(30)), sync(), reset(long(20), "s")},
	}
}

// P14.1: no disk, and a disk without power.
func TestOpenRefuses(t *testing.T) {
	if l, e := Open(nil); l != nil || e != api.ErrForm {
		t.Errorf("%v, %v", l != nil, e)
	}
	d := onDisk(t, nil)
	d.Off(0)
	for range 2 {
		if l, e := Open(d); l != nil || e != api.ErrPower {
			t.Errorf("%v, %v", l != nil, e)
		}
	}
	p := begin(t).do(t, add("a"), sync())
	p.d.Crash(nil)
	if l, e := Open(p.d); l != nil || e != api.ErrPower {
		t.Errorf("%v, %v", l != nil, e)
	}
}

// P14.1: an empty disk has no records, however often it is opened.
func TestOpenOfAnEmptyDisk(t *testing.T) {
	for _, files := range [][][]byte{nil, {}, {nil, nil, nil}, {{}, {}, {}}} {
		p := open(t, onDisk(t, files))
		if len(p.records) != 0 {
			t.Errorf("%q", p.records)
		}
		p.again(t)
		p.found(t, p.d.Crash(nil)).do(t, add("a"), sync())
	}
}

// P14.1, P14.4: the power goes ahead of each call of the disk in Open; the log stays what it was.
func TestOpenWithoutPower(t *testing.T) {
	for i, script := range someScripts() {
		p := begin(t).do(t, script...)
		p.left(to(7), to(60), []int{0, 1, 2}, func(files [][]byte) {
			want := p.found(t, files).records
			for n := 1; ; n++ {
				d := onDisk(t, files)
				d.Off(n)
				l, e := Open(d)
				if _, power := d.Size(0); e != power || (l == nil) != (e != api.OK) {
					t.Fatalf("%d, off at %d: %v, %v", i, n, l != nil, e)
				}
				q := &life{d: d, can: map[string]bool{key(want): true}}
				q.left(to(3), []int{0, 1, 31, 32, 33, 1000}, []int{0, 1}, func(files [][]byte) { q.found(t, files) })
				if l != nil {
					break
				}
			}
		})
	}
}

// P14.2: the chapter's example.
func TestExample(t *testing.T) {
	d := onDisk(t, nil)
	l, e := Open(d)
	if e != api.OK {
		t.Fatal(e)
	}
	if a, b, c := l.Append("a"), l.Append(""), l.Sync(); a != api.OK || b != api.OK || c != api.OK {
		t.Fatalf("%v, %v, %v", a, b, c)
	}
	if got := l.All(); len(got) != 2 || got[0] != "a" || got[1] != "" {
		t.Errorf("%q", got)
	}
	if a, b, c := l.Reset([]string{"new", "", "three"}), l.Append("four"), l.Sync(); a != api.OK || b != api.OK || c != api.OK {
		t.Fatalf("%v, %v, %v", a, b, c)
	}
	l, e = Open(onDisk(t, d.Crash(nil)))
	if e != api.OK || !slices.Equal(l.All(), []string{"new", "", "three", "four"}) {
		t.Errorf("%v, %q", e, l.All())
	}
}

// P14.1, P14.2: calls of all methods, and what is found without a crash and with one.
func TestCalls(t *testing.T) {
	for _, script := range someScripts() {
		p := begin(t)
		for _, c := range script {
			p.do(t, c)
			p.again(t)
		}
		p.found(t, p.d.Crash(nil)).look(t)
	}
}

// P14.2: records of each length about the edges, by Append and by Reset.
func TestLengths(t *testing.T) {
	for _, n := range []int{0, 1, 2, 7, 8, 9, 15, 16, 17, 255, 256, 257, longest - 1, longest} {
		p := begin(t).do(t, add(long(n)), add("x"), sync())
		p.found(t, p.d.Crash(nil)).do(t, reset("x", long(n), long(n)), add(long(n)), sync(), add("y"))
	}
	for _, n := range []int{longest + 1, longest + 2, 2 * longest, 1 << 21, 1 << 24} {
		p := begin(t).do(t, add("a"), add(long(n)), reset(long(n)), reset("b", long(n)), reset(long(n), "b"), reset("b", long(n), "c"))
		if p.lost || len(p.records) != 1 {
			t.Errorf("%d: %v, %q", n, p.lost, p.records)
		}
		p.do(t, sync(), add("b"))
	}
}

// P14.2: every byte value, in a record of its own and together.
func TestBytes(t *testing.T) {
	var each []string
	for x := range 256 {
		each = append(each, string([]byte{byte(x)}), string([]byte{byte(x), byte(x), byte(x)}))
	}
	each = append(each, strings.Join(each, ""), strings.Repeat("\x00", 99), strings.Repeat("\xff", 99))
	p := begin(t)
	for _, s := range each {
		p.make(t, add(s))
	}
	p.do(t, sync())
	q := p.found(t, p.d.Crash(nil)).do(t, reset(each...), add("\x00"))
	q.do(t, sync()).found(t, q.d.Crash(nil))
}

// P14.4: what a crash tore of a record is not found behind later ones, though it looks like records.
func TestTornRecordIsGone(t *testing.T) {
	ghost := string(withRecord(nil, "ghost"))
	for skip := range 40 {
		p := begin(t).do(t, add("a"), sync(), add(long(skip)+strings.Repeat(ghost, 3)+long(5)))
		p.left([]int{0}, to(200), []int{0}, func(files [][]byte) {
			q := p.found(t, files)
			for _, s := range []string{"", "b"} {
				q.do(t, add(s)).again(t)
				q = q.do(t, sync()).found(t, q.d.Crash(nil)).look(t)
			}
		})
	}
}

// P14.2: records that look like what the log itself writes.
func TestRecordsLikeFiles(t *testing.T) {
	p := begin(t).do(t, add("a"), sync(), reset("b", "c"), add("d"), sync())
	files := p.d.Crash(nil)
	q := begin(t)
	for _, b := range files {
		q.do(t, add(string(b)), add(string(b)+string(b)), sync(), reset(string(b), "", string(b)))
	}
	q.left(to(3), to(400), []int{0}, func(files [][]byte) { q.found(t, files) })
	r := begin(t).do(t, add("x"), sync(), add(string(files[0])), add(string(files[1])))
	r.left(to(3), to(400), []int{0}, func(files [][]byte) { r.found(t, files) })
}

// fullLogs are logs of just the largest size, by short records and by long ones.
func fullLogs() [][]string {
	part := longest + beside
	rest := largest - largest/part*part - beside
	short := slices.Repeat([]string{""}, largest/beside)
	ones := slices.Repeat([]string{"1"}, largest/(beside+1)-1)
	mixed := slices.Concat(slices.Repeat([]string{long(longest), ""}, 60), slices.Repeat([]string{long(1000)}, 100))
	return [][]string{
		short,
		append(ones, long(largest-sizeOf(ones)-beside)),
		append(slices.Repeat([]string{long(longest)}, largest/part), long(rest)),
		append(slices.Clone(mixed), fillers(largest-sizeOf(mixed))...),
	}
}

// fillers are records of the size n together.
func fillers(n int) []string {
	var l []string
	for n > longest+beside {
		l = append(l, long(longest-beside))
		n -= longest
	}
	return append(l, long(n-beside))
}

// P14.2: a log of the largest size, and none that is larger, by Append.
func TestFullByAppend(t *testing.T) {
	for i, l := range fullLogs() {
		if sizeOf(l) != largest {
			t.Fatalf("%d: a size of %d", i, sizeOf(l))
		}
		p := begin(t)
		for _, s := range l[:len(l)-1] {
			if e := p.l.Append(s); e != api.OK {
				t.Fatalf("%d: %v", i, e)
			}
		}
		p.records, p.can = l[:len(l)-1:len(l)-1], map[string]bool{}
		last := l[len(l)-1]
		p.do(t, add(last+"x"), add(last), add(""), add("x"), add(long(longest)), add(long(longest+1)), sync())
		if len(p.records) != len(l) || p.lost {
			t.Errorf("%d: %d records", i, len(p.records))
		}
		p.found(t, p.d.Crash(nil)).do(t, add(""), reset(l[1:]...), add(l[0]), add(""), sync())
	}
}

// P14.2: a log of the largest size, and none that is larger, by Reset.
func TestFullByReset(t *testing.T) {
	for i, l := range fullLogs() {
		above := slices.Clone(l)
		above[len(l)-1] += "x"
		more := append(slices.Clone(l), "")
		p := begin(t).do(t, add("a"), reset(above...), reset(more...))
		if !slices.Equal(p.records, []string{"a"}) {
			t.Errorf("%d: %s", i, brief(p.records))
		}
		p.do(t, reset(l...), add(""), reset(above...), reset(more...))
		if len(p.records) != len(l) {
			t.Errorf("%d: %d records", i, len(p.records))
		}
		p.found(t, p.d.Crash(nil)).do(t, add(""), sync())
	}
}

// P14.2: what does not fit any more fits behind a Reset to fewer.
func TestRoomByReset(t *testing.T) {
	for _, l := range fullLogs() {
		p := begin(t).do(t, reset(l...), add("one"), reset(l[:len(l)/2]...), add("one"), add(long(longest)), sync())
		p.do(t, reset(), add("one"), sync())
		p.found(t, p.d.Crash(nil)).do(t, reset(l...), reset(l...), add(""), reset("x"), add(""))
	}
}

// P14.2: of several errors, the first in the chapter's order; and the log goes on behind the refused call.
func TestFirstError(t *testing.T) {
	tooLong := long(longest + 1)
	full := fullLogs()[2]
	for i, c := range []struct {
		call call
		e    api.Errno
	}{
		{add(tooLong), api.ErrForm},
		{add(""), api.ErrFull},
		{add(long(longest)), api.ErrFull},
		{reset(append([]string{tooLong}, full...)...), api.ErrForm},
		{reset(append(slices.Clone(full), tooLong)...), api.ErrForm},
		{reset(slices.Concat(full, full, []string{tooLong}, full)...), api.ErrForm},
		{reset(append(slices.Clone(full), "")...), api.ErrFull},
		{reset(slices.Repeat(full, 5)...), api.ErrFull},
		{reset(slices.Repeat([]string{""}, 1<<20)...), api.ErrFull},
		{reset(slices.Repeat([]string{long(longest)}, 1<<17)...), api.ErrFull},
	} {
		for _, dark := range []bool{false, true} {
			p := begin(t).do(t, reset(full...))
			if dark {
				p.d.Off(0)
			}
			if e := p.ask(t, c.call); e != c.e {
				t.Errorf("%d, %v: %v, want %v", i, dark, e, c.e)
			}
			p.look(t).do(t, sync())
			if dark {
				p.do(t, c.call)
			} else {
				p.do(t, reset("a"), add("b"))
			}
		}
	}
}

// P14.2, R4: a refused call asks nothing of the disk, and changes nothing of the log.
func TestRefusedCallsChangeNothing(t *testing.T) {
	full := fullLogs()[2]
	p := begin(t).do(t, add("a"), sync(), reset(full[1:]...), add("b"))
	p.d.Off(1)
	refused := []call{add(long(longest + 1)), add(long(longest)), reset("c", long(longest+1)), reset(append(full, "d")...)}
	for _, c := range refused {
		if p.refusal(c) == api.OK {
			t.Fatalf("%v is not one to refuse", c)
		}
		p.do(t, c)
	}
	if _, e := p.d.Size(0); e != api.OK || p.lost {
		t.Errorf("%v, %v", e, p.lost)
	}
	p.d.Off(2)
	p.do(t, sync(), refused[0]).do(t, refused...)
	p.do(t, add("x"))
	if !p.lost {
		t.Error("the power did not go")
	}
	p.found(t, p.d.Crash(nil))
}

// wrongCalls are calls of all methods, with arguments right and wrong.
func wrongCalls() []call {
	return []call{
		add("x"), add(""), add(long(longest)), add(long(longest + 1)), sync(), reset(), reset("x", ""), reset(long(longest + 1)),
		reset(slices.Repeat([]string{long(longest)}, 200)...),
	}
}

// P14.3: the power goes ahead of each call of the disk, in each of the methods.
func TestPowerGoes(t *testing.T) {
	for i, script := range someScripts() {
		for n := 0; ; n++ {
			p := begin(t)
			p.d.Off(n)
			p.do(t, script...)
			if !p.lost {
				break
			}
			p.do(t, wrongCalls()...).do(t, wrongCalls()...)
			p.found(t, p.d.Crash(nil)).do(t, script...)
			if n > 99 {
				t.Fatalf("%d: no end", i)
			}
		}
	}
}

// P14.3: a log that is full, and errors that would come first otherwise.
func TestPowerGoesWhenFull(t *testing.T) {
	for _, first := range []call{sync(), reset(), reset("a")} {
		p := begin(t).do(t, reset(fullLogs()[2]...))
		p.d.Off(0)
		p.do(t, add(""), add(long(longest+1)), reset(long(longest+1)))
		if p.lost {
			t.Fatal("lost without an error of the disk")
		}
		p.do(t, first, add(""), add(long(longest+1)), reset(long(longest+1)), reset(slices.Repeat(p.records, 2)...), sync())
		if !p.lost {
			t.Errorf("%v did not tell of the power", first)
		}
	}
}

// P14.3: another error of the disk is told once; from then on, the log has no power.
func TestOtherErrorOfTheDisk(t *testing.T) {
	p := begin(t).do(t, add("abc"), sync())
	for n := range 3 {
		if e := p.d.Cut(n, 0); e != api.OK {
			t.Fatal(e)
		}
	}
	if e := p.l.Append("d"); e != api.ErrLimit {
		t.Errorf("%v", e)
	}
	p.lost = true
	p.do(t, wrongCalls()...)
}

// P14.3: a log that Open did not answer has no disk.
func TestLogOfNoDisk(t *testing.T) {
	p := &life{l: new(Log), lost: true}
	p.look(t).do(t, wrongCalls()...)
}

// P14.4: crashes at each call of the disk, with many picks, and again while what is left is opened.
func TestCrashes(t *testing.T) {
	for _, script := range someScripts() {
		for n := 0; ; n++ {
			p := begin(t)
			if n > 0 {
				p.d.Off(n)
			}
			p.do(t, script...)
			p.left(to(6), to(100), []int{0, 1, 2, 33, 60}, func(files [][]byte) {
				p.found(t, files).do(t, add("more"), sync())
			})
			if n > 0 && !p.lost {
				break
			}
		}
	}
}

// shortScripts are all scripts of up to n calls of some few.
func shortScripts(n int) [][]call {
	few := []call{add("a"), add(""), sync(), reset(), reset("b", "c")}
	all := [][]call{nil}
	for from := 0; n > 0; n-- {
		end := len(all)
		for _, script := range all[from:end] {
			for _, c := range few {
				all = append(all, append(slices.Clip(script), c))
			}
		}
		from = end
	}
	return all
}

// P14.4: all short scripts, with crashes at each call of the disk; and another one behind each of them.
func TestShortScripts(t *testing.T) {
	for _, script := range shortScripts(4) {
		for n := 0; ; n++ {
			p := begin(t)
			if n > 0 {
				p.d.Off(n)
			}
			p.make(t, script...).look(t)
			p.left(to(4), []int{0, 1, 8, 17, 31, 32, 40, 49}, []int{0, 1, 33}, func(files [][]byte) {
				q := p.found(t, files).make(t, add("d"), add("e"))
				q.d.Off(1 + n%3)
				q.make(t, sync(), reset("f"))
				q.found(t, q.d.Crash([]int{n % 4, n % 5, n % 3, n % 7})).look(t)
			})
			if n > 0 && !p.lost {
				break
			}
		}
	}
}

// P14.4: picks of any kind.
func TestPicks(t *testing.T) {
	for _, picks := range [][]int{nil, {}, {-1}, {-1, -1}, {-2, -3, -5, -7}, {math.MinInt, math.MaxInt, math.MinInt, math.MaxInt}, {1}, {1, 1 << 40}, {1 << 40, 1}, to(99), {5, 5, 5, 5, 5, 5, 5, 5}} {
		for _, script := range someScripts() {
			for n := range 16 {
				p := begin(t)
				p.d.Off(n)
				p.make(t, script...).look(t)
				p.found(t, p.d.Crash(picks)).do(t, script...)
			}
		}
	}
}

// P14.4: what Open has answered is there behind any crash, though nothing was synced since.
func TestOpenedLasts(t *testing.T) {
	for _, script := range someScripts() {
		p := begin(t).do(t, script...)
		p.left(to(7), to(60), []int{0, 1, 40}, func(files [][]byte) {
			q := p.found(t, files)
			q.left(to(4), to(4), []int{0, 1}, func(files [][]byte) { q.found(t, files) })
		})
	}
}

// P14.4: a log is opened with records that were not synced, and found with them behind any crash.
func TestOpenedUnsynced(t *testing.T) {
	for _, script := range someScripts() {
		p := begin(t).do(t, script...)
		q := open(t, p.d)
		if key(q.records) != key(p.records) {
			t.Fatalf("after %v: %s", p.calls, brief(q.records))
		}
		q.left(to(4), to(60), []int{0, 1, 33}, func(files [][]byte) { q.found(t, files) })
	}
}

// P14.1, P14.4: who opens the log a second time to look at it takes nothing from the first.
func TestOpenedToLook(t *testing.T) {
	for _, script := range someScripts() {
		p := begin(t)
		for _, c := range script {
			p.again(t)
			p.do(t, c)
		}
		p.again(t)
		p.do(t, add("last"), sync())
		p.found(t, p.d.Crash(nil))
	}
}

// P14.4: scripts by chance, with crash upon crash, also while what an earlier one left is opened.
func TestByChance(t *testing.T) {
	for seed := range int64(250) {
		r := rand.New(rand.NewSource(seed))
		p := begin(t)
		for range 12 {
			p.d.Off(1 + r.Intn(30))
			for range r.Intn(25) {
				p.make(t, chosen(r))
			}
			p.look(t)
			files := p.d.Crash(picked(r))
			for r.Intn(2) == 0 {
				files = leftByOpen(t, r, files)
			}
			p = p.found(t, files)
		}
	}
}

func chosen(r *rand.Rand) call {
	switch r.Intn(8) {
	case 0:
		return sync()
	case 1:
		var l []string
		for range r.Intn(4) {
			l = append(l, record(r))
		}
		return reset(l...)
	case 2:
		return add(long(longest + r.Intn(2)))
	}
	return add(record(r))
}

func record(r *rand.Rand) string {
	b := make([]byte, r.Intn(40))
	if r.Intn(2) == 0 {
		r.Read(b)
	}
	return string(b)
}

func picked(r *rand.Rand) []int {
	var picks []int
	for range r.Intn(8) {
		picks = append(picks, r.Intn(200)-20)
	}
	return picks
}

// leftByOpen answers what is left where the power goes while the log is opened.
func leftByOpen(t *testing.T, r *rand.Rand, files [][]byte) [][]byte {
	t.Helper()
	d := onDisk(t, files)
	d.Off(1 + r.Intn(4))
	if l, e := Open(d); e != api.OK && (e != api.ErrPower || l != nil) {
		t.Fatalf("%v, %v", l != nil, e)
	}
	return d.Crash(picked(r))
}

// P14.2, P14.4: many calls in a row, within the bounds of the disk.
func TestManyCalls(t *testing.T) {
	p := begin(t)
	for i := range 60000 {
		if a, b := p.l.Append(fmt.Sprint(i)), p.l.Sync(); a != api.OK || b != api.OK {
			t.Fatalf("%d: %v, %v", i, a, b)
		}
		p.records = append(p.records, fmt.Sprint(i))
	}
	p.look(t).do(t, sync()).again(t)
	for i := range 3000 {
		p.make(t, reset(fmt.Sprint(i), long(i), ""), add("a"), add(long(i)))
		if i%2 == 0 {
			p.make(t, sync())
		}
	}
	p.look(t).do(t, sync())
	p.found(t, p.d.Crash(nil)).look(t)
}

// P14.2: a log that is filled again and again.
func TestFilledAgain(t *testing.T) {
	p := begin(t)
	for round := range 12 {
		n := 0
		for p.l.Append(long(longest-round)) == api.OK {
			n++
		}
		if want := largest / (longest - round + beside); n != want {
			t.Fatalf("round %d: %d records, want %d", round, n, want)
		}
		p.records = slices.Repeat([]string{long(longest - round)}, n)
		p.look(t)
		if round%3 != 0 {
			p.do(t, sync())
		}
		for file := range 3 {
			if size, e := p.d.Size(file); size > api.MaxLog || e != api.OK {
				t.Errorf("round %d: %d bytes, %v", round, size, e)
			}
		}
		p.do(t, reset())
	}
}

// R1: equal calls leave equal bytes.
func TestEqualCalls(t *testing.T) {
	for _, script := range someScripts() {
		one, two := begin(t).do(t, script...), begin(t).do(t, script...)
		if a, b := one.d.Crash([]int{1, 5, 2}), two.d.Crash([]int{1, 5, 2}); !slices.EqualFunc(a, b, slices.Equal[[]byte]) {
			t.Errorf("%v: %q and %q", script, a, b)
		}
	}
}

// R2: what All answers is the caller's own, with the room behind it.
func TestAllIsACopy(t *testing.T) {
	p := begin(t)
	for range 5 {
		p.do(t, add("a"), add("b"), sync())
		one, two := p.l.All(), p.l.All()
		for i := range one {
			one[i] = "spoilt"
		}
		clear(one[len(one):cap(one)])
		_ = append(one[:1], "spoilt", "spoilt", "spoilt")
		if !slices.Equal(two, p.records) {
			t.Fatalf("%q", two)
		}
		p.look(t)
		_ = append(two, "spoilt")
		p.do(t, add("c"))
		if !slices.Equal(two, p.records[:len(two)]) {
			t.Fatalf("%q", two)
		}
	}
	p.found(t, p.d.Crash([]int{9, 9, 9}))
}

// R2: what All answered stays what it was, whatever the log does then.
func TestAllStays(t *testing.T) {
	p := begin(t).do(t, reset("a", "b", "c"))
	was := p.l.All()
	p.do(t, reset("x", "y", "z"), reset("u"), add("v"), reset("1", "2", "3", "4"))
	p.d.Off(0)
	p.do(t, add("w"), reset("q"))
	if !slices.Equal(was, []string{"a", "b", "c"}) {
		t.Errorf("%q", was)
	}
}

// R2: logs on two disks share nothing.
func TestLogsApart(t *testing.T) {
	files := begin(t).do(t, add("a"), sync(), reset("b"), add("c"), sync()).d.Crash(nil)
	one, two := open(t, onDisk(t, files)), open(t, onDisk(t, files))
	one.do(t, add("d"), sync())
	two.look(t).do(t, add("e"), reset("f"))
	one.look(t)
	one.d.Off(0)
	one.do(t, add("g"))
	two.do(t, add("h"), sync()).again(t)
	two.found(t, two.d.Crash(nil))
}

// P14.1: what lies on a disk changes by one bit: no record is ever found that was not appended.
func TestSpoiltBits(t *testing.T) {
	p := begin(t).do(t, add("zero"), sync(), reset("one", "two"), add("three"), add("\x00\x00"), sync())
	files := p.d.Crash(nil)
	p.can = map[string]bool{}
	for _, l := range [][]string{{}, {"zero"}, {"one", "two"}, {"one", "two", "three"}, {"one", "two", "three", "\x00\x00"}} {
		p.can[key(l)] = true
	}
	for _, b := range files {
		for i := range b {
			for bit := range 8 {
				b[i] ^= 1 << bit
				p.found(t, files).do(t, add("on"), sync())
				b[i] ^= 1 << bit
			}
		}
	}
}

// P14.1: files that end early, or go on with other bytes.
func TestSpoiltEnds(t *testing.T) {
	p := begin(t).do(t, add("zero"), sync(), reset("one", "two"), add("three"), sync())
	files := p.d.Crash(nil)
	for _, behind := range []string{"\x00", "x", string(make([]byte, 16)), string(make([]byte, 40)), "\xff\xff\xff\xff\xff\xff\xff\xff", long(8), long(300), strings.Repeat("\xff", 99)} {
		for n := range files {
			more := slices.Clone(files)
			more[n] = append(slices.Clone(files[n]), behind...)
			q := p.found(t, more)
			if n < 2 {
				q.look(t).do(t, add("on"), sync(), reset("off"), add("end"), sync())
			}
			q.found(t, q.d.Crash(nil))
		}
	}
	for _, l := range [][]string{{}, {"zero"}, {"one", "two"}} {
		p.can[key(l)] = true
	}
	for n := range files {
		for end := range files[n] {
			less := slices.Clone(files)
			less[n] = files[n][:end]
			q := p.found(t, less).do(t, add("on"), sync())
			q.found(t, q.d.Crash(nil))
		}
	}
}

// P14.1, R1: whatever lies on a disk, a log opens on it, finds the same again, and goes on.
func TestAnyBytes(t *testing.T) {
	full := make([]byte, api.MaxLog)
	whole := slices.Repeat([]byte(long(8)), api.MaxLog/8)
	l := [][][]byte{{full, full, full}, {whole, whole, whole}, {{0}, nil, nil}, {nil, {0}, nil}, {nil, nil, {0}}, {full[:16], full[:32], full[:32]}, {nil, nil, full}}
	r := rand.New(rand.NewSource(14))
	for range 300 {
		var files [][]byte
		for range 3 {
			b := make([]byte, r.Intn(100))
			r.Read(b)
			files = append(files, b)
		}
		l = append(l, files)
	}
	for _, files := range l {
		p := open(t, onDisk(t, files))
		p.again(t)
		p.do(t, add("a"), sync(), add(long(longest)), reset("b", ""), add("c"), sync()).again(t)
		p.found(t, p.d.Crash(nil)).do(t, add("d"))
	}
}

// P14.1, R1: files of the program's own form that no log has written.
func TestStrangeFiles(t *testing.T) {
	one := held{records: []string{"one"}}
	for i, c := range []struct {
		files [2][]byte
		want  []string
	}{
		{[2][]byte{one.bytes(), nil}, []string{"one"}},
		{[2][]byte{nil, one.bytes()}, []string{"one"}},
		{[2][]byte{one.bytes(), one.bytes()}, []string{"one"}},
		{[2][]byte{withRecord(held{}.bytes(), long(longest)), nil}, []string{long(longest)}},
		{[2][]byte{withRecord(held{}.bytes(), long(longest+1)), nil}, nil},
		{[2][]byte{withRecord(withRecord(held{}.bytes(), "a"), long(longest+1)), nil}, []string{"a"}},
		{[2][]byte{held{records: []string{long(longest + 1)}}.bytes(), one.bytes()}, []string{"one"}},
		{[2][]byte{held{turn: 7, records: slices.Repeat([]string{""}, 1<<17+1)}.bytes(), one.bytes()}, []string{"one"}},
		{[2][]byte{held{turn: 7, records: slices.Repeat([]string{""}, 1<<17)}.bytes(), one.bytes()}, slices.Repeat([]string{""}, 1<<17)},
		{[2][]byte{withRecord(nil, long(headText-1)), one.bytes()}, []string{"one"}},
		{[2][]byte{withRecord(nil, long(headText+1)), one.bytes()}, []string{"one"}},
		{[2][]byte{withRecord(nil, ""), one.bytes()}, []string{"one"}},
		{[2][]byte{withRecord(nil, "\x00\x00\x00\x00\x00\x00\x00\x09\x00\x00\x00\x00\x00\x00\x00"), one.bytes()}, []string{"one"}},
		{[2][]byte{withRecord(nil, "\x00\x00\x00\x00\x00\x00\x00\x09\x00\x00\x00\x00\x00\x00\x00\x00\x00"), one.bytes()}, []string{"one"}},
		{[2][]byte{withRecord(nil, long(headText)), one.bytes()}, []string{"one"}},
		{[2][]byte{withRecord(nil, strings.Repeat("\xff", headText)), one.bytes()}, []string{"one"}},
	} {
		p := open(t, onDisk(t, [][]byte{c.files[0], c.files[1], nil}))
		if !slices.Equal(p.records, c.want) {
			t.Errorf("%d: %s", i, brief(p.records))
		}
		p.again(t)
		p.do(t, add("a"), sync(), reset("b"), add("c"), reset("d"), sync())
		p.found(t, p.d.Crash(nil)).look(t)
	}
}

// P14.1: more records than a log may have are not found on a disk; there is no room for another.
func TestOverfullFiles(t *testing.T) {
	b := held{}.bytes()
	for range largest/beside + 5 {
		b = withRecord(b, "")
	}
	p := open(t, onDisk(t, [][]byte{b, nil, nil}))
	if len(p.records) != largest/beside {
		t.Errorf("%d records", len(p.records))
	}
	p.do(t, add(""), reset("a"), add(""), sync()).again(t)
}

// P14.4: of two files, the one that was laid down later is found, wherever their turns are.
func TestTurns(t *testing.T) {
	for _, turn := range []uint64{0, 1, 2, 9, math.MaxInt64 - 1, math.MaxInt64, math.MaxInt64 + 1, math.MaxUint64 - 1, math.MaxUint64} {
		old := held{turn: turn, records: []string{"old"}}.bytes()
		young := held{turn: turn + 1, records: []string{"new"}}.bytes()
		for _, files := range [][][]byte{{old, young, nil}, {young, old, nil}} {
			p := open(t, onDisk(t, files))
			if !slices.Equal(p.records, []string{"new"}) {
				t.Fatalf("%d: %q", turn, p.records)
			}
			for range 5 {
				p = p.do(t, add("a"), reset("b"), reset("c"), reset("d"), add("e"), sync()).found(t, p.d.Crash(nil)).look(t)
			}
		}
	}
}

// What is no wrong input goes on as the panic that it is.
func TestOtherPanicsGoOn(t *testing.T) {
	for _, mistake := range []any{"mistake", 1, api.ErrForm, fmt.Errorf("mistake")} {
		func() {
			defer func() {
				if p := recover(); p != mistake {
					t.Errorf("%v, want %v", p, mistake)
				}
			}()
			catch(func() { panic(mistake) })
		}()
	}
}
