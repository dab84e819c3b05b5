package disk

import (
	"math"
	"math/rand"
	"slices"
	"strconv"
	"strings"
	"testing"

	"diptych/api"
)

// plain is a disk by the chapter's words: what is seen is made anew for each question, from what lies there and every effect that waits.
type plain struct {
	room    int
	lie     []api.File // Path, Text; in no order
	waits   []plainEffect
	armed   bool
	cut     api.Cut
	counted int
	down    bool
}

type plainEffect struct{ what, a, b string }

func find(files []api.File, path string) int {
	return slices.IndexFunc(files, func(f api.File) bool { return f.Path == path })
}

func put(files []api.File, path, text string) []api.File {
	return append(drop(files, path), api.File{Path: path, Text: text})
}

func drop(files []api.File, path string) []api.File {
	return slices.DeleteFunc(slices.Clone(files), func(f api.File) bool { return f.Path == path })
}

func (e plainEffect) done(files []api.File) []api.File {
	at := find(files, e.a)
	switch {
	case e.what == "write":
		return put(files, e.a, e.b)
	case e.what == "remove":
		return drop(files, e.a)
	case at < 0 || e.a == e.b:
		return files
	}
	return drop(put(files, e.b, files[at].Text), e.a)
}

func (m *plain) seen() []api.File {
	files := m.lie
	for _, e := range m.waits {
		files = e.done(files)
	}
	return files
}

func takes(files []api.File) int {
	n := 0
	for _, f := range files {
		n += len(f.Path) + len(f.Text)
	}
	return n
}

func (m *plain) power() api.Errno {
	if !m.armed {
		return api.OK
	}
	m.counted++
	if m.counted != m.cut.At {
		return api.OK
	}
	bits := strconv.FormatUint(m.cut.Keep, 2)
	for n, e := range m.waits {
		if n < len(bits) && bits[len(bits)-1-n] == '1' {
			m.lie = e.done(m.lie)
		}
	}
	m.waits, m.armed, m.down = nil, false, true
	return api.ErrDown
}

func (m *plain) effect(e plainEffect) api.Errno {
	m.waits = append(slices.Clone(m.waits), e)
	return m.power()
}

func badPath(p string) bool { return len(p) < 1 || len(p) > 255 }

func (m *plain) write(path, text string) api.Errno {
	e := plainEffect{"write", path, text}
	with := e.done(m.seen())
	switch {
	case m.down:
		return api.ErrDown
	case badPath(path):
		return api.ErrName
	case len(with) > 4096 || takes(with) > m.room:
		return api.ErrFull
	}
	return m.effect(e)
}

func (m *plain) rename(from, to string) api.Errno {
	e := plainEffect{"rename", from, to}
	switch {
	case m.down:
		return api.ErrDown
	case badPath(to):
		return api.ErrName
	case find(m.seen(), from) < 0:
		return api.ErrNone
	case takes(e.done(m.seen())) > m.room:
		return api.ErrFull
	}
	return m.effect(e)
}

func (m *plain) remove(path string) api.Errno {
	switch {
	case m.down:
		return api.ErrDown
	case find(m.seen(), path) < 0:
		return api.ErrNone
	}
	return m.effect(plainEffect{"remove", path, ""})
}

func (m *plain) sync() api.Errno {
	if m.down {
		return api.ErrDown
	}
	if e := m.power(); e != api.OK {
		return e
	}
	m.lie, m.waits = m.seen(), nil
	return api.OK
}

func (m *plain) read(path string) (string, api.Errno) {
	at := find(m.seen(), path)
	switch {
	case m.down:
		return "", api.ErrDown
	case at < 0:
		return "", api.ErrNone
	}
	return m.seen()[at].Text, api.OK
}

func (m *plain) list(prefix string) []string {
	var paths []string
	for _, f := range m.seen() {
		if !m.down && len(f.Path) >= len(prefix) && f.Path[:len(prefix)] == prefix {
			paths = append(paths, f.Path)
		}
	}
	slices.Sort(paths)
	return paths
}

func (m *plain) arm(c api.Cut) { m.armed, m.cut, m.counted = c.At >= 1, c, 0 }

func (m *plain) taken() int {
	if m.down {
		return 0
	}
	return takes(m.seen())
}

func (m *plain) copy() *plain {
	c := *m
	c.lie, c.waits = slices.Clone(m.lie), slices.Clone(m.waits)
	return &c
}

// alike: does the disk answer as the plain one, whatever it is asked?
func alike(t *testing.T, d *Disk, m *plain, paths []string) {
	t.Helper()
	if d.Down() != m.down || d.Waiting() != len(m.waits) || d.Taken() != m.taken() {
		t.Fatalf("down %v, waiting %d, taken %d; not %v, %d, %d", d.Down(), d.Waiting(), d.Taken(), m.down, len(m.waits), m.taken())
	}
	for _, p := range paths {
		got, e := d.Read(p)
		want, f := m.read(p)
		if got != want || e != f {
			t.Fatalf("Read(%q): %q, %d; not %q, %d", p, got, e, want, f)
		}
		if l := d.List(p); !slices.Equal(l, m.list(p)) {
			t.Fatalf("List(%q): %q, not %q", p, l, m.list(p))
		}
	}
}

func made(t testing.TB, room int) *Disk {
	t.Helper()
	d, e := New(room)
	if e != api.OK || d == nil {
		t.Fatalf("New(%d): %v, %d", room, d, e)
	}
	return d
}

// must: answered this was, asked that.
func must(t testing.TB, what string, got, want api.Errno) {
	t.Helper()
	if got != want {
		t.Fatalf("%s: %d, not %d", what, got, want)
	}
}

// files: "path=text", rising.
func files(d *Disk) string {
	var l []string
	for _, p := range d.List("") {
		text, _ := d.Read(p)
		l = append(l, p+"="+text)
	}
	return strings.Join(l, " ")
}

func TestP7_1New(t *testing.T) {
	for _, room := range []int{math.MinInt, -1 << 31, -1, 1<<24 + 1, 1 << 32, math.MaxInt} {
		if d, e := New(room); d != nil || e != api.ErrRange {
			t.Errorf("New(%d): %v, %d", room, d, e)
		}
	}
	for _, room := range []int{0, 1, 100, 1<<24 - 1, 1 << 24} {
		d := made(t, room)
		if d.Down() || d.Waiting() != 0 || d.Taken() != 0 || len(d.List("")) != 0 {
			t.Errorf("New(%d) isn't empty, or down", room)
		}
		must(t, "Sync of nothing", d.Sync(), api.OK)
		if room > 0 {
			must(t, "fills it", d.Write("a", strings.Repeat("x", room-1)), api.OK)
		}
		must(t, "beyond the room", d.Write("a", strings.Repeat("x", room)), api.ErrFull)
		must(t, "beyond the room, another one", d.Write("b", ""), api.ErrFull)
		if d.Taken() != room {
			t.Errorf("taken %d, not %d", d.Taken(), room)
		}
	}
}

func TestP7_1Down(t *testing.T) {
	d := made(t, 4)
	must(t, "Write", d.Write("a", "x"), api.OK)
	d.Arm(api.Cut{At: 1, Keep: 1})
	must(t, "Sync", d.Sync(), api.ErrDown)
	long := strings.Repeat("p", 256)
	for _, p := range []string{"", "a", "b", long} {
		must(t, "Write", d.Write(p, "x"), api.ErrDown)
		must(t, "Write of more than there is room", d.Write(p, "xxxxx"), api.ErrDown)
		must(t, "Remove", d.Remove(p), api.ErrDown)
		if s, e := d.Read(p); s != "" || e != api.ErrDown {
			t.Errorf("Read(%q): %q, %d", p, s, e)
		}
		for _, q := range []string{"", "a", "b", long} {
			must(t, "Rename", d.Rename(p, q), api.ErrDown)
		}
		if l := d.List(p); len(l) != 0 {
			t.Errorf("List(%q): %q", p, l)
		}
	}
	must(t, "Sync", d.Sync(), api.ErrDown)
	if d.Taken() != 0 || d.Waiting() != 0 || !d.Down() || !d.Copy().Down() {
		t.Error("down")
	}
	d.Start()
	if d.Down() || files(d) != "a=x" || d.Taken() != 2 {
		t.Errorf("started: %q", files(d))
	}
}

func TestP7_2Paths(t *testing.T) {
	d := made(t, 10000)
	must(t, "Write", d.Write("a", "x"), api.OK)
	for _, n := range []int{0, 1, 2, 254, 255, 256, 257, 9999, 20000} {
		p := strings.Repeat("\xff", n)
		want := api.OK
		if n < 1 || n > 255 {
			want = api.ErrName
		}
		must(t, "Write of a path of "+strconv.Itoa(n), d.Write(p, "y"), want)
		must(t, "Rename of none to it", d.Rename("none", p), max(want, api.ErrNone))
		must(t, "Rename to it", d.Rename("a", p), want)
		if want == api.OK {
			must(t, "Rename back", d.Rename(p, "a"), api.OK)
		} else if s, e := d.Read(p); s != "" || e != api.ErrNone {
			t.Errorf("Read of what is no path: %q, %d", s, e)
		} else {
			must(t, "Rename of what is no path", d.Rename(p, "b"), api.ErrNone)
			must(t, "Remove of what is no path", d.Remove(p), api.ErrNone)
		}
	}
	for _, p := range []string{"\x00", "/", "..", " ", "\n", "a/b", "\xc3"} {
		must(t, "any bytes", d.Write(p, p), api.OK)
		if s, e := d.Read(p); s != p || e != api.OK {
			t.Errorf("Read(%q): %q, %d", p, s, e)
		}
	}
	must(t, "no path, ahead of no room", d.Write("", strings.Repeat("x", 20000)), api.ErrName)
}

func TestP7_2Refused(t *testing.T) {
	d := made(t, 10)
	must(t, "Write", d.Write("a", "12345"), api.OK)
	must(t, "Write", d.Write("bb", "12"), api.OK)
	d.Arm(api.Cut{At: 1})
	for range 3 {
		must(t, "Write of more than there is room", d.Write("c", ""), api.ErrFull)
		must(t, "Write of more in place of less", d.Write("bb", "123"), api.ErrFull)
		must(t, "Write of no path", d.Write("", ""), api.ErrName)
		must(t, "Rename to more than there is room", d.Rename("a", "cc"), api.ErrFull)
		must(t, "Rename of none", d.Rename("c", "d"), api.ErrNone)
		must(t, "Rename to no path", d.Rename("c", ""), api.ErrName)
		must(t, "Remove of none", d.Remove("c"), api.ErrNone)
		if s, e := d.Read("c"); s != "" || e != api.ErrNone {
			t.Errorf("Read of none: %q, %d", s, e)
		}
	}
	if d.Down() || d.Waiting() != 2 || d.Taken() != 10 || files(d) != "a=12345 bb=12" {
		t.Errorf("what is refused changes nothing: %q", files(d))
	}
	must(t, "the first one that isn't refused", d.Remove("a"), api.ErrDown)
}

func TestP7_2Room(t *testing.T) {
	d := made(t, 10)
	must(t, "Write", d.Write("a", "123"), api.OK)
	must(t, "Write", d.Write("bbb", "123"), api.OK)
	must(t, "an equal one in its place", d.Write("a", "xyz"), api.OK)
	must(t, "Rename to itself, where there is no more room", d.Rename("bbb", "bbb"), api.OK)
	must(t, "Rename to another file", d.Rename("a", "bbb"), api.OK)
	if files(d) != "bbb=xyz" || d.Taken() != 6 || d.Waiting() != 5 {
		t.Errorf("%q, taken %d", files(d), d.Taken())
	}
	must(t, "Rename up to the room", d.Rename("bbb", "1234567"), api.OK)
	must(t, "Rename beyond it", d.Rename("1234567", "12345678"), api.ErrFull)
	must(t, "Remove", d.Remove("1234567"), api.OK)
	must(t, "Remove again", d.Remove("1234567"), api.ErrNone)
	if files(d) != "" || d.Taken() != 0 {
		t.Errorf("%q, taken %d", files(d), d.Taken())
	}
	none := made(t, 0)
	must(t, "a disk of no room", none.Write("a", ""), api.ErrFull)
}

func TestP7_2Files(t *testing.T) {
	d := made(t, api.MaxDisk)
	for i := range 4096 {
		must(t, "Write", d.Write(strconv.Itoa(i), ""), api.OK)
	}
	must(t, "one more", d.Write("a", ""), api.ErrFull)
	must(t, "one that is there", d.Write("0", "x"), api.OK)
	must(t, "Rename", d.Rename("0", "a"), api.OK)
	must(t, "the one that was renamed", d.Write("0", ""), api.ErrFull)
	must(t, "Sync", d.Sync(), api.OK)
	must(t, "one more", d.Write("0", ""), api.ErrFull)
	must(t, "Remove", d.Remove("a"), api.OK)
	must(t, "one in its place", d.Write("0", ""), api.OK)
	must(t, "one more", d.Write("a", ""), api.ErrFull)
	if n := len(d.List("")); n != 4096 {
		t.Errorf("%d files", n)
	}
}

// A failure may keep writes without the removals that made room for them: what lies there then is as it is, and all that leaves it too much is refused.
func TestP7_2Beyond(t *testing.T) {
	d := made(t, 8)
	must(t, "Write", d.Write("aaa", "12345"), api.OK)
	must(t, "Sync", d.Sync(), api.OK)
	must(t, "Remove", d.Remove("aaa"), api.OK)
	d.Arm(api.Cut{At: 1, Keep: 2})
	must(t, "Write", d.Write("bbb", "12345"), api.ErrDown)
	d.Start()
	if files(d) != "aaa=12345 bbb=12345" || d.Taken() != 16 {
		t.Errorf("%q, taken %d", files(d), d.Taken())
	}
	must(t, "less, but still too much", d.Write("aaa", ""), api.ErrFull)
	must(t, "Rename, still too much", d.Rename("aaa", "b"), api.ErrFull)
	must(t, "Rename to itself", d.Rename("aaa", "aaa"), api.ErrFull)
	must(t, "Rename to the other one", d.Rename("aaa", "bbb"), api.OK)
	if files(d) != "bbb=12345" || d.Taken() != 8 {
		t.Errorf("%q, taken %d", files(d), d.Taken())
	}

	d = made(t, api.MaxDisk)
	for i := range 4096 {
		must(t, "Write", d.Write(strconv.Itoa(i), ""), api.OK)
	}
	must(t, "Sync", d.Sync(), api.OK)
	must(t, "Remove", d.Remove("0"), api.OK)
	d.Arm(api.Cut{At: 1, Keep: 2})
	must(t, "Write", d.Write("a", ""), api.ErrDown)
	d.Start()
	if n := len(d.List("")); n != 4097 {
		t.Errorf("%d files", n)
	}
	must(t, "one that is there", d.Write("0", "x"), api.ErrFull)
	must(t, "Rename", d.Rename("0", "b"), api.OK)
	must(t, "Rename to another one", d.Rename("b", "1"), api.OK)
	must(t, "one that is there, of 4096", d.Write("1", "x"), api.OK)
}

func TestP7_3List(t *testing.T) {
	d := made(t, 1000)
	paths := []string{"b", "a/b", "a", "ab", "\xff", "a/", "\x00", "a/a", "B"}
	for _, p := range paths {
		must(t, "Write", d.Write(p, ""), api.OK)
	}
	for _, c := range []struct {
		prefix string
		want   []string
	}{
		{"", []string{"\x00", "B", "a", "a/", "a/a", "a/b", "ab", "b", "\xff"}},
		{"a", []string{"a", "a/", "a/a", "a/b", "ab"}},
		{"a/", []string{"a/", "a/a", "a/b"}},
		{"\xff", []string{"\xff"}},
		{"c", nil}, {"a/b/", nil}, {strings.Repeat("a", 300), nil},
	} {
		if l := d.List(c.prefix); !slices.Equal(l, c.want) {
			t.Errorf("List(%q): %q, not %q", c.prefix, l, c.want)
		}
	}
	l := d.List("")
	clear(l)
	if !slices.Equal(d.List("B"), []string{"B"}) || d.List("")[1] != "B" {
		t.Error("a list is the asker's own")
	}
}

func TestP7_3Arm(t *testing.T) {
	for _, at := range []int{math.MinInt, -1, 0, math.MaxInt} {
		d := made(t, 100)
		d.Arm(api.Cut{At: 1, Keep: 1})
		d.Arm(api.Cut{At: at, Keep: 7})
		for range 200 {
			must(t, "Write", d.Write("a", "x"), api.OK)
			must(t, "Sync", d.Sync(), api.OK)
		}
	}
	for at := 1; at < 10; at++ {
		d := made(t, 100)
		d.Arm(api.Cut{At: 2})
		must(t, "counted by the cut that goes", d.Sync(), api.OK)
		d.Arm(api.Cut{At: at})
		for n := 1; n < at; n++ {
			must(t, "Sync ahead of it", d.Sync(), api.OK)
			d.Read("a")
			d.List("")
			d.Taken()
			d.Waiting()
			d.Start()
		}
		must(t, "Sync at it", d.Sync(), api.ErrDown)
		d.Start()
		for range 20 {
			must(t, "none is armed any more", d.Sync(), api.OK)
		}
	}
}

// Armed while it is down: what is refused there isn't counted.
func TestP7_3ArmedDown(t *testing.T) {
	d := made(t, 100)
	d.Arm(api.Cut{At: 1})
	must(t, "Sync", d.Sync(), api.ErrDown)
	d.Arm(api.Cut{At: 2, Keep: 1})
	for range 5 {
		must(t, "Sync", d.Sync(), api.ErrDown)
		must(t, "Write", d.Write("a", "x"), api.ErrDown)
	}
	d.Start()
	must(t, "Write", d.Write("a", "x"), api.OK)
	must(t, "Sync", d.Sync(), api.ErrDown)
	d.Start()
	if files(d) != "a=x" {
		t.Errorf("%q", files(d))
	}
}

// A start of what is up changes nothing: what waits goes on waiting, the cut stays armed.
func TestP7_3Start(t *testing.T) {
	d := made(t, 100)
	must(t, "Write", d.Write("a", "x"), api.OK)
	d.Arm(api.Cut{At: 1})
	d.Start()
	if d.Waiting() != 1 || files(d) != "a=x" {
		t.Errorf("%d wait, %q", d.Waiting(), files(d))
	}
	must(t, "Sync", d.Sync(), api.ErrDown)
	d.Start()
	if files(d) != "" || d.Taken() != 0 {
		t.Errorf("%q", files(d))
	}
}

func TestP7_3Copy(t *testing.T) {
	d := made(t, 12)
	must(t, "Write", d.Write("a", "1"), api.OK)
	must(t, "Write", d.Write("b", "2"), api.OK)
	must(t, "Sync", d.Sync(), api.OK)
	must(t, "Write", d.Write("a", "3"), api.OK)
	must(t, "Remove", d.Remove("b"), api.OK)
	d.Arm(api.Cut{At: 2, Keep: 1 | 4})
	must(t, "Write", d.Write("c", "4"), api.OK)
	c := d.Copy()
	if files(c) != "a=3 c=4" || c.Waiting() != 3 || c.Taken() != 4 || c.Down() {
		t.Errorf("the copy: %q, %d wait", files(c), c.Waiting())
	}
	must(t, "at the copy's cut", c.Write("e", "6"), api.ErrDown)
	if d.Down() || files(d) != "a=3 c=4" || d.Waiting() != 3 {
		t.Errorf("the first one: %q, %d wait", files(d), d.Waiting())
	}
	must(t, "at the first one's cut", d.Write("d", "5"), api.ErrDown)
	d.Start()
	if files(d) != "a=3 b=2 c=4" {
		t.Errorf("the first one: %q", files(d))
	}
	if !c.Down() {
		t.Error("the copy started with the first one")
	}
	must(t, "Remove", d.Remove("b"), api.OK)
	must(t, "Sync", d.Sync(), api.OK)
	c.Start()
	if files(c) != "a=3 b=2 c=4" {
		t.Errorf("the copy: %q", files(c))
	}
	must(t, "of the same room", c.Write("d", "12345"), api.OK)
	must(t, "of the same room", c.Write("d", "123456"), api.ErrFull)
}

// What comes to wait at one of them doesn't come to wait at the other one, however much room either has for it.
func TestP7_3CopyWaits(t *testing.T) {
	for n := range 70 {
		d := made(t, 1000)
		for i := range n {
			must(t, "Write", d.Write("p"+strconv.Itoa(i), ""), api.OK)
		}
		c := d.Copy()
		must(t, "Write", d.Write("d", "1"), api.OK)
		must(t, "Write", c.Write("c", "2"), api.OK)
		for _, x := range []*Disk{d, c} {
			x.Arm(api.Cut{At: 1, Keep: math.MaxUint64})
			must(t, "Sync", x.Sync(), api.ErrDown)
			x.Start()
		}
		has := n < 64
		if (len(d.List("d")) == 1) != has || (len(c.List("c")) == 1) != has || len(d.List("c"))+len(c.List("d")) != 0 {
			t.Errorf("%d waited: %q, %q", n, files(d), files(c))
		}
	}
}

func TestP7_4Example(t *testing.T) {
	d := made(t, 100)
	must(t, "Write", d.Write("a", "x"), api.OK)
	must(t, "Sync", d.Sync(), api.OK)
	must(t, "Write", d.Write("a", "y"), api.OK)
	d.Arm(api.Cut{At: 1, Keep: 0})
	must(t, "Rename", d.Rename("a", "b"), api.ErrDown)
	d.Start()
	if files(d) != "a=x" {
		t.Errorf("%q", files(d))
	}
}

// Every cut of one course, with every choice of what is kept: as the plain disk has it, and each path as it was, or as one effect left it.
func TestP7_4EveryCut(t *testing.T) {
	ops := []op{
		{"write", "a", "n"}, {"rename", "a", "b"}, {"write", "a", "m"}, {"rename", "b", "a"},
		{"remove", "a", ""}, {"rename", "c", "a"}, {"write", "c", "z"}, {"rename", "c", "c"}, {"sync", "", ""},
	}
	for at := 1; at <= len(ops)+1; at++ {
		for keep := range uint64(1 << 9) {
			d, m := made(t, 20), &plain{room: 20}
			for _, o := range []op{{"write", "a", "o"}, {"write", "c", "p"}, {"sync", "", ""}} {
				o.both(t, d, m)
			}
			synced := m.lie
			d.Arm(api.Cut{At: at, Keep: keep})
			m.arm(api.Cut{At: at, Keep: keep})
			for _, o := range ops {
				o.both(t, d, m)
			}
			alike(t, d, m, nil)
			d.Start()
			m.down = false
			alike(t, d, m, []string{"", "a", "b", "c"})
			if at <= len(ops) {
				leftBySome(t, d, synced, ops[:at])
			}
		}
	}
}

// leftBySome: is each path as it was, or gone, or of a text that was there or was written?
func leftBySome(t *testing.T, d *Disk, synced []api.File, ops []op) {
	t.Helper()
	touched := map[string]int{}
	texts := map[string]int{}
	for _, f := range synced {
		texts[f.Text]++
	}
	for _, o := range ops {
		touched[o.a]++
		if o.what == "rename" {
			touched[o.b]++
		} else {
			texts[o.b]++
		}
	}
	for _, p := range d.List("") {
		text, _ := d.Read(p)
		at := find(synced, p)
		if (at < 0 || synced[at].Text != text) && (touched[p] == 0 || texts[text] == 0) {
			t.Errorf("%q is %q", p, text)
		}
	}
}

type op struct{ what, a, b string }

// both: done to both disks; they must answer alike.
func (o op) both(t *testing.T, d *Disk, m *plain) {
	t.Helper()
	var got, want api.Errno
	switch o.what {
	case "write":
		got, want = d.Write(o.a, o.b), m.write(o.a, o.b)
	case "rename":
		got, want = d.Rename(o.a, o.b), m.rename(o.a, o.b)
	case "remove":
		got, want = d.Remove(o.a), m.remove(o.a)
	case "sync":
		got, want = d.Sync(), m.sync()
	}
	if got != want {
		t.Fatalf("%s %q %q: %d, not %d", o.what, o.a, o.b, got, want)
	}
}

// Of more than 64 effects that wait a failure keeps none from number 64 on; a sync does all.
func TestP7_4Many(t *testing.T) {
	for _, n := range []int{1, 2, 63, 64, 65, 66, 130} {
		for _, keep := range []uint64{0, 1, 1 << 62, 1 << 63, 3 << 62, 1<<63 | 1, math.MaxUint64} {
			d, m := made(t, 10000), &plain{room: 10000}
			op{"write", "old", "x"}.both(t, d, m)
			op{"sync", "", ""}.both(t, d, m)
			for i := range n - 1 {
				op{"write", strconv.Itoa(i), "y"}.both(t, d, m)
			}
			d.Arm(api.Cut{At: 1, Keep: keep})
			m.arm(api.Cut{At: 1, Keep: keep})
			op{"rename", "old", "new"}.both(t, d, m)
			d.Start()
			m.down = false
			alike(t, d, m, []string{"", "0", "62", "63", "64", "65", "old", "new"})
		}
		d := made(t, 10000)
		for i := range n {
			must(t, "Write", d.Write(strconv.Itoa(i), "y"), api.OK)
		}
		must(t, "Remove", d.Remove("0"), api.OK)
		want := files(d)
		if d.Waiting() != n+1 {
			t.Errorf("%d wait, not %d", d.Waiting(), n+1)
		}
		must(t, "Sync", d.Sync(), api.OK)
		if d.Waiting() != 0 || files(d) != want {
			t.Errorf("behind a sync of %d: %q, not %q", n, files(d), want)
		}
		must(t, "Write", d.Write("1", "w"), api.OK)
		d.Arm(api.Cut{At: 1})
		must(t, "Sync", d.Sync(), api.ErrDown)
		d.Start()
		if files(d) != want {
			t.Errorf("behind a failure behind a sync of %d: %q, not %q", n, files(d), want)
		}
	}
}

// What waits beyond what a failure can keep isn't held, however long no sync comes.
func TestP7_4Held(t *testing.T) {
	d := made(t, 1000)
	for i := range 100000 {
		must(t, "Write", d.Write("a", strconv.Itoa(i)), api.OK)
	}
	if d.Waiting() != 100000 || len(d.first) > 64 {
		t.Errorf("%d wait, %d held", d.Waiting(), len(d.first))
	}
	must(t, "Sync", d.Sync(), api.OK)
	if files(d) != "a=99999" || cap(d.first) != 0 {
		t.Errorf("%q", files(d))
	}
}

// course runs what the bytes say on both disks, and on copies of them.
func course(t *testing.T, bytes []byte) {
	paths := []string{"a", "b", "ab", "a/b", "cc", "ddd", "", strings.Repeat("p", 255), strings.Repeat("p", 256)}
	next := func() int {
		if len(bytes) == 0 {
			return 0
		}
		b := bytes[0]
		bytes = bytes[1:]
		return int(b)
	}
	path := func() string {
		if n := next(); n < 240 {
			return paths[n%6]
		} else {
			return paths[n%len(paths)]
		}
	}
	room := []int{0, 10, 20, 40, 300, 600, 1 << 24}[next()%7]
	d, m := made(t, room), &plain{room: room}
	for len(bytes) > 0 {
		switch k := next() % 24; {
		case k < 9:
			op{"write", path(), strings.Repeat(string(rune('a'+next()%8)), next()%12)}.both(t, d, m)
		case k < 13:
			op{"rename", path(), path()}.both(t, d, m)
		case k < 17:
			op{"remove", path(), ""}.both(t, d, m)
		case k < 19:
			op{"sync", "", ""}.both(t, d, m)
		case k < 21:
			c := api.Cut{At: next()%8 - 1, Keep: uint64(next())<<56 | uint64(next())<<8 | uint64(next())}
			d.Arm(c)
			m.arm(c)
		case k < 23:
			d.Start()
			m.down = false
		default:
			e, n := d.Copy(), m.copy()
			alike(t, e, n, paths)
			if next()%2 == 0 { // the first one goes its own way, and is left behind
				d.Write("a", "own")
				d.Remove("b")
				d.Sync()
				d.Write("cc", "own")
				d, m = e, n
			} else {
				e.Remove("a")
				e.Write("b", "own")
				e.Arm(api.Cut{At: 1, Keep: 5})
				e.Sync()
			}
		}
		alike(t, d, m, paths)
	}
}

func TestP7_4Courses(t *testing.T) {
	r := rand.New(rand.NewSource(7))
	for range 800 {
		bytes := make([]byte, r.Intn(400))
		r.Read(bytes)
		course(t, bytes)
	}
}

func FuzzCourse(f *testing.F) {
	f.Add([]byte{})
	f.Add([]byte{3, 0, 0, 1, 2, 17, 19, 2, 0, 0, 1, 9, 0, 1, 21})
	f.Fuzz(func(t *testing.T, bytes []byte) {
		if len(bytes) < 2000 {
			course(t, bytes)
		}
	})
}
