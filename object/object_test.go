package object

import (
	"fmt"
	"math"
	"math/rand"
	"reflect"
	"regexp"
	"slices"
	"strconv"
	"strings"
	"testing"

	"diptych/api"
	"diptych/ident"
)

func spaces() map[int]int { return map[int]int{api.Narrow: 20, api.Wide: 32} }

// noNumbers: those of no space and of no kind.
func noNumbers() []int {
	return []int{0, -1, 5, 6, 20, 32, 256 + 1, 256 + 2, 1<<32 + 1, 1<<32 + 2, math.MinInt, math.MaxInt}
}

func id(n int, b byte) string { return strings.Repeat(string([]byte{b}), n) }

func blob() api.Object { return api.Object{Kind: api.Blob, Text: "a text\x00\n"} }

func tree(n int) api.Object {
	return api.Object{Kind: api.Tree, Entries: []api.Entry{
		{Mode: api.ModeFile, Name: "a", Id: id(n, 0xab)},
		{Mode: api.ModeTree, Name: "a b", Id: id(n, 0)},
		{Mode: api.ModeExec, Name: "a\xff", Id: id(n, '\n')},
	}}
}

func commit(n int) api.Object {
	return api.Object{Kind: api.Commit, Tree: id(n, 0xab), Parents: []string{id(n, 9), id(n, 1)}, Who: "ann b", When: 7, Text: "hello\n"}
}

func tag(n int) api.Object {
	return api.Object{Kind: api.Tag, Target: id(n, 0xcd), Of: api.Commit, Name: "v1/x", Who: "me", When: 12, Text: "a\n\nb"}
}

func all(n int) []api.Object {
	first := commit(n)
	first.Parents, first.Text = nil, ""
	return []api.Object{blob(), tree(n), commit(n), tag(n), first, {Kind: api.Blob}, {Kind: api.Tree}}
}

// isTagName, isEntryName, isPerson: byte by byte, by the chapter's words.
func isTagName(s string) bool {
	for _, c := range []byte(s) {
		if !strings.Contains("abcdefghijklmnopqrstuvwxyzABCDEFGHIJKLMNOPQRSTUVWXYZ0123456789._-/", string(rune(c))) {
			return false
		}
	}
	return len(s) >= 1 && len(s) <= 64
}

func isEntryName(s string) bool {
	for _, c := range []byte(s) {
		if c == 0 || c == 47 {
			return false
		}
	}
	return len(s) >= 1 && len(s) <= 64 && s != "." && s != ".."
}

func isPerson(s string) bool {
	for _, c := range []byte(s) {
		if c == 0 || c == 10 {
			return false
		}
	}
	return len(s) >= 1 && len(s) <= 64
}

// plainForm: is all right but the length of the content?
func plainForm(o api.Object, space int) bool {
	n, ok := spaces()[space]
	if !ok {
		return false
	}
	isBlob, isTree, isCommit, isTag := o.Kind == 1, o.Kind == 2, o.Kind == 3, o.Kind == 4
	if !isBlob && !isTree && !isCommit && !isTag {
		return false
	}
	if isTree && o.Text != "" || !isTree && len(o.Entries) > 0 || !isCommit && (o.Tree != "" || len(o.Parents) > 0) ||
		!isTag && (o.Target != "" || o.Of != 0 || o.Name != "") || (isBlob || isTree) && (o.Who != "" || o.When != 0) {
		return false
	}
	if isTree {
		for i, x := range o.Entries {
			if x.Mode < 1 || x.Mode > 3 || len(x.Id) != n || !isEntryName(x.Name) || i > 0 && !(o.Entries[i-1].Name < x.Name) {
				return false
			}
		}
		return len(o.Entries) <= 512
	}
	if isCommit {
		seen := map[string]bool{}
		for _, x := range o.Parents {
			if len(x) != n || seen[x] {
				return false
			}
			seen[x] = true
		}
		if len(o.Tree) != n || len(o.Parents) > 8 {
			return false
		}
	}
	if isTag && (len(o.Target) != n || o.Of < 1 || o.Of > 4 || !isTagName(o.Name)) {
		return false
	}
	return isBlob || isPerson(o.Who) && o.When >= 0 && o.When <= 2147483647
}

// plainPrint: of a right object, by the chapter's words.
func plainPrint(o api.Object) string {
	s := ""
	switch o.Kind {
	case 1:
		return o.Text
	case 2:
		for _, x := range o.Entries {
			s += []string{"", "100644", "100755", "40000"}[x.Mode] + " " + x.Name + "\x00" + x.Id
		}
		return s
	case 3:
		s = fmt.Sprintf("tree %x\n", o.Tree)
		for _, x := range o.Parents {
			s += fmt.Sprintf("parent %x\n", x)
		}
		return s + fmt.Sprintf("author %s %d\n\n%s", o.Who, o.When, o.Text)
	}
	word := []string{"", "blob", "tree", "commit", "tag"}[o.Of]
	return fmt.Sprintf("object %x\ntype %s\ntag %s\ntagger %s %d\n\n%s", o.Target, word, o.Name, o.Who, o.When, o.Text)
}

// runes: one a byte, so that expressions count bytes; and back.
func runes(s string) string {
	out := []rune{}
	for _, c := range []byte(s) {
		out = append(out, rune(c))
	}
	return string(out)
}

func unrunes(s string) string {
	out := []byte{}
	for _, c := range s {
		out = append(out, byte(c))
	}
	return string(out)
}

func undigits(s string) string {
	out := []byte{}
	for i := 0; i < len(s); i += 2 {
		b, _ := strconv.ParseUint(s[i:i+2], 16, 8)
		out = append(out, byte(b))
	}
	return string(out)
}

var (
	entryForm  = `(100644|100755|40000) ([^\x00/]{1,64})\x00(.{%d})`
	commitForm = `(?s)^tree ([0-9a-f]{%[1]d})\n((?:parent [0-9a-f]{%[1]d}\n){0,8})author ([^\x00\n]{1,64}) (0|[1-9][0-9]{0,9})\n\n(.*)$`
	tagForm    = `(?s)^object ([0-9a-f]{%d})\ntype (blob|tree|commit|tag)\ntag ([a-zA-Z0-9._/-]{1,64})\ntagger ([^\x00\n]{1,64}) (0|[1-9][0-9]{0,9})\n\n(.*)$`
)

// compiled: each expression once, since compiling takes longer than asking.
var compiled = map[string]*regexp.Regexp{}

func form(text string) *regexp.Regexp {
	if compiled[text] == nil {
		compiled[text] = regexp.MustCompile(text)
	}
	return compiled[text]
}

// plainParse: by expressions. A wrong time is left for plainForm to see.
func plainParse(kind int, content string, n int) (o api.Object, ok bool) {
	whole := runes(content)
	o.Kind = kind
	switch kind {
	case 1:
		o.Text = content
		return o, true
	case 2:
		entry := fmt.Sprintf(entryForm, n)
		if !form(`(?s)^(?:` + entry + `)*$`).MatchString(whole) {
			return o, false
		}
		for _, m := range form(`(?s)`+entry).FindAllStringSubmatch(whole, -1) {
			mode := map[string]int{"100644": 1, "100755": 2, "40000": 3}[m[1]]
			o.Entries = append(o.Entries, api.Entry{Mode: mode, Name: unrunes(m[2]), Id: unrunes(m[3])})
		}
	case 3:
		m := form(fmt.Sprintf(commitForm, 2*n)).FindStringSubmatch(whole)
		if m == nil {
			return o, false
		}
		o.Tree, o.Who, o.Text = undigits(m[1]), unrunes(m[3]), unrunes(m[5])
		for _, l := range strings.Fields(m[2]) {
			if l != "parent" {
				o.Parents = append(o.Parents, undigits(l))
			}
		}
		o.When, _ = strconv.Atoi(m[4])
	case 4:
		m := form(fmt.Sprintf(tagForm, 2*n)).FindStringSubmatch(whole)
		if m == nil {
			return o, false
		}
		o.Target, o.Name, o.Who, o.Text = undigits(m[1]), m[3], unrunes(m[4]), unrunes(m[6])
		o.Of = map[string]int{"blob": 1, "tree": 2, "commit": 3, "tag": 4}[m[2]]
		o.When, _ = strconv.Atoi(m[5])
	}
	return o, true
}

// holds: does all that is promised hold of one object, in one space?
func holds(t *testing.T, o api.Object, space int) {
	t.Helper()
	want, form := api.OK, plainForm(o, space)
	content := ""
	switch {
	case spaces()[space] == 0:
		want = api.ErrRange
	case o.Kind < 1 || o.Kind > 4:
		want = api.ErrKind
	case !form:
		want = api.ErrForm
	case len(plainPrint(o)) > 65536:
		want = api.ErrLimit
	default:
		content = plainPrint(o)
	}
	if Right(o, space) != (want == api.OK) {
		t.Errorf("Right(%.200q, %d): %v", fmt.Sprint(o), space, want != api.OK)
	}
	if s, e := Print(o, space); s != content || e != want {
		t.Errorf("Print(%.200q, %d): %.200q %d, not %.200q %d", fmt.Sprint(o), space, s, e, content, want)
	}
	if want == api.OK {
		if p, e := Parse(o.Kind, content, space); e != api.OK || !Same(p, o) || !plainSame(p, o) {
			t.Errorf("Parse(%d, %.200q, %d): %.200q %d", o.Kind, content, space, fmt.Sprint(p), e)
		}
	}
}

// parses: does Parse answer what the expressions say?
func parses(t *testing.T, kind int, content string, space int) bool {
	t.Helper()
	want, ok := plainParse(kind, content, spaces()[space])
	ok = ok && plainForm(want, space) && len(content) <= 65536
	o, e := Parse(kind, content, space)
	if ok && (e != api.OK || !plainSame(o, want)) {
		t.Errorf("Parse(%d, %.200q, %d): %.200q %d, not %.200q", kind, content, space, fmt.Sprint(o), e, fmt.Sprint(want))
	}
	wrong := api.ErrForm
	if len(content) > 65536 {
		wrong = api.ErrLimit
	}
	if !ok && (e != wrong || !reflect.DeepEqual(o, api.Object{})) {
		t.Errorf("Parse(%d, %.200q, %d): %.200q %d, not %d", kind, content, space, fmt.Sprint(o), e, wrong)
	}
	return ok
}

// plainSame: with every empty list a nil one.
func plainSame(a, b api.Object) bool {
	for _, o := range []*api.Object{&a, &b} {
		if len(o.Entries) == 0 {
			o.Entries = nil
		}
		if len(o.Parents) == 0 {
			o.Parents = nil
		}
	}
	return reflect.DeepEqual(a, b)
}

func clone(o api.Object) api.Object {
	o.Entries, o.Parents = slices.Clone(o.Entries), slices.Clone(o.Parents)
	return o
}

// changes: of one field each, for right and for wrong.
func changes(n int) []func(o *api.Object) {
	var out []func(o *api.Object)
	add := func(f func(o *api.Object)) { out = append(out, f) }
	for _, kind := range append(noNumbers(), 1, 2, 3, 4) {
		add(func(o *api.Object) { o.Kind = kind })
		add(func(o *api.Object) { o.Of = kind })
		add(func(o *api.Object) { o.When = kind })
	}
	for _, when := range []int{1<<31 - 2, 1<<31 - 1, 1 << 31, 1<<32 + 7, -2, 10, 100} {
		add(func(o *api.Object) { o.When = when })
	}
	for _, x := range []string{"", "\x00", "\n", "a\nb", "a\x00", " ", " a ", "a  b", "7", "a 7", ".", "..", "/", "x/y", "é", "\xff", "\r", strings.Repeat("n", 63), strings.Repeat("n", 64), strings.Repeat("n", 65), strings.Repeat("é", 33), id(20, 7), id(32, 7), id(40, '7'), id(64, '7'), id(n-1, 7), id(n+1, 7), "\n\nparent ", "object", "parent " + id(2*n, '7') + "\n"} {
		add(func(o *api.Object) { o.Text = x })
		add(func(o *api.Object) { o.Tree = x })
		add(func(o *api.Object) { o.Target = x })
		add(func(o *api.Object) { o.Name = x })
		add(func(o *api.Object) { o.Who = x })
		add(func(o *api.Object) { o.Parents = []string{x} })
		add(func(o *api.Object) { o.Parents = []string{id(n, 1), x} })
		add(func(o *api.Object) { o.Entries = []api.Entry{{Mode: 1, Name: x, Id: id(n, 1)}} })
		add(func(o *api.Object) { o.Entries = []api.Entry{{Mode: 2, Name: "a", Id: x}} })
	}
	add(func(o *api.Object) { o.Parents = []string{} })
	add(func(o *api.Object) { o.Entries = []api.Entry{} })
	add(func(o *api.Object) { o.Entries = []api.Entry{{}} })
	add(func(o *api.Object) { o.Parents = []string{""} })
	for _, l := range [][]string{{"a", "a"}, {"b", "a"}, {"a", "b"}, {"a", "a.", "aa"}, {"a", "A"}, {"\x7f", "\x80"}, {"\x80", "\x7f"}, {"ab", "a"}, {"a", "a b", "a"}, {"a", "c", "b"}} {
		add(func(o *api.Object) {
			o.Entries = nil
			for _, x := range l {
				o.Entries = append(o.Entries, api.Entry{Mode: 3, Name: x, Id: id(n, 3)})
			}
		})
		add(func(o *api.Object) {
			o.Parents = nil
			for _, x := range l {
				o.Parents = append(o.Parents, x+id(n-len(x), 0))
			}
		})
	}
	for _, mode := range []int{-1, 0, 1, 2, 3, 4, 257, 100644, 40000, math.MaxInt, math.MinInt} {
		add(func(o *api.Object) { o.Entries = []api.Entry{{Mode: mode, Name: "a", Id: id(n, 1)}} })
	}
	for _, many := range []int{7, 8, 9, 511, 512, 513} {
		add(func(o *api.Object) { o.Parents = numbered(many, n) })
		add(func(o *api.Object) { o.Entries = entries(many, n, 3) })
	}
	return out
}

// numbered: unlike names.
func numbered(many, n int) []string {
	var out []string
	for i := range many {
		out = append(out, id(n-2, 5)+string([]byte{byte(i >> 8), byte(i)}))
	}
	return out
}

func entries(many, n, width int) []api.Entry {
	var out []api.Entry
	for i := range many {
		out = append(out, api.Entry{Mode: 1 + i%3, Name: fmt.Sprintf("%0*d", width, i), Id: id(n, byte(i))})
	}
	return out
}

func TestP11_1Names(t *testing.T) {
	list := []string{"", ".", "..", "...", ".a", "..a", "a.", "./", "/.", "é", "a\u2028", "\ufffd", "\x80", "\xff\xfe"}
	for c := range 256 {
		one := string([]byte{byte(c)})
		list = append(list, one, "abc"+one, one+"abc", "abcdefgh"+one+"ijklmnop", strings.Repeat(one, 64), strings.Repeat(one, 65))
	}
	for _, s := range list {
		if TagName(s) != isTagName(s) {
			t.Errorf("TagName(%q): %v", s, TagName(s))
		}
		if EntryName(s) != isEntryName(s) {
			t.Errorf("EntryName(%q): %v", s, EntryName(s))
		}
	}
	long := strings.Repeat("a", 1<<20)
	if TagName(long) || EntryName(long) {
		t.Error("a name of a million bytes")
	}
}

func TestP11_1Right(t *testing.T) {
	for space, n := range spaces() {
		for _, o := range all(n) {
			if !Right(o, space) {
				t.Errorf("not right in %d: %.200q", space, fmt.Sprint(o))
			}
			for _, other := range noNumbers() {
				if Right(o, other) {
					t.Errorf("right in %d: %.200q", other, fmt.Sprint(o))
				}
			}
			named := o.Tree != "" || o.Target != "" || len(o.Entries) > 0
			if Right(o, 3-space) == named {
				t.Errorf("in %d as in %d: %.200q", 3-space, space, fmt.Sprint(o))
			}
		}
	}
}

func TestP11_1Same(t *testing.T) {
	o := api.Object{Kind: 1, Text: "2", Entries: []api.Entry{{Mode: 3, Name: "4", Id: "5"}}, Tree: "6", Parents: []string{"7"}, Target: "8", Of: 9, Name: "10", Who: "11", When: 12}
	if !Same(o, clone(o)) || !Same(api.Object{}, api.Object{}) {
		t.Error("not the same as itself")
	}
	for i, f := range []func(o *api.Object){
		func(o *api.Object) { o.Kind = 2 }, func(o *api.Object) { o.Text = "" }, func(o *api.Object) { o.Entries = nil },
		func(o *api.Object) { o.Entries[0].Mode = 1 }, func(o *api.Object) { o.Entries[0].Name = "5" }, func(o *api.Object) { o.Entries[0].Id = "4" },
		func(o *api.Object) { o.Entries = append(o.Entries, api.Entry{}) }, func(o *api.Object) { o.Tree = "7" },
		func(o *api.Object) { o.Parents = []string{} }, func(o *api.Object) { o.Parents[0] = "" },
		func(o *api.Object) { o.Parents = append(o.Parents, "7") }, func(o *api.Object) { o.Target = "" },
		func(o *api.Object) { o.Of = 0 }, func(o *api.Object) { o.Name = "11" }, func(o *api.Object) { o.Who = "10" },
		func(o *api.Object) { o.When = -12 }, func(o *api.Object) { o.Name, o.Who = o.Who, o.Name },
	} {
		p := clone(o)
		f(&p)
		if Same(o, p) || Same(p, o) || !Same(p, clone(p)) {
			t.Error("change", i)
		}
	}
	if !Same(api.Object{Kind: 3, Parents: []string{}, Entries: []api.Entry{}}, api.Object{Kind: 3}) {
		t.Error("an empty list isn't a nil one")
	}
	if Same(api.Object{Parents: []string{"a", "b"}}, api.Object{Parents: []string{"b", "a"}}) {
		t.Error("the order of Parents")
	}
}

func TestP11_2Contents(t *testing.T) {
	d := strings.Repeat("ab", 20)
	for _, c := range []struct {
		o    api.Object
		want string
	}{
		{api.Object{Kind: api.Blob}, ""},
		{api.Object{Kind: api.Blob, Text: "hi\x00"}, "hi\x00"},
		{api.Object{Kind: api.Tree}, ""},
		{api.Object{Kind: api.Tree, Entries: []api.Entry{{Mode: 1, Name: "a", Id: id(20, 'i')}}}, "100644 a\x00iiiiiiiiiiiiiiiiiiii"},
		{api.Object{Kind: api.Tree, Entries: []api.Entry{{Mode: 3, Name: "100755 a", Id: id(20, 0)}, {Mode: 2, Name: "b", Id: id(20, ' ')}}},
			"40000 100755 a\x00" + id(20, 0) + "100755 b\x00" + id(20, ' ')},
		{api.Object{Kind: api.Commit, Tree: id(20, 0xab), Who: "a"}, "tree " + d + "\nauthor a 0\n\n"},
		{api.Object{Kind: api.Commit, Tree: id(20, 0xab), Parents: []string{id(20, 0xff), id(20, 1)}, Who: " a 1 ", When: 2147483647, Text: "x"},
			"tree " + d + "\nparent " + strings.Repeat("ff", 20) + "\nparent " + strings.Repeat("01", 20) + "\nauthor  a 1  2147483647\n\nx"},
		{api.Object{Kind: api.Tag, Target: id(20, 0xab), Of: api.Tag, Name: "v", Who: "a b", When: 10, Text: "\n"},
			"object " + d + "\ntype tag\ntag v\ntagger a b 10\n\n\n"},
	} {
		if s, e := Print(c.o, api.Narrow); s != c.want || e != api.OK {
			t.Errorf("Print: %q %d, not %q", s, e, c.want)
		}
		if o, e := Parse(c.o.Kind, c.want, api.Narrow); !Same(o, c.o) || e != api.OK {
			t.Errorf("Parse(%q): %v %d", c.want, o, e)
		}
	}
}

// Names of objects that are known elsewhere: the tree without entries, and that of one empty file a.
func TestP11_2Known(t *testing.T) {
	empty, _ := ident.Id(api.Narrow, api.Blob, "")
	for want, o := range map[string]api.Object{
		"4b825dc642cb6eb9a060e54bf8d69288fbee4904": {Kind: api.Tree},
		"496d6428b9cf92981dc9495211e6e1120fb6f2ba": {Kind: api.Tree, Entries: []api.Entry{{Mode: 1, Name: "a", Id: empty}}},
	} {
		s, e := Print(o, api.Narrow)
		if n, _ := ident.Of[ident.NarrowSpace](api.Tree, s); e != api.OK || n.Digits() != want {
			t.Errorf("%s, not %s", n.Digits(), want)
		}
	}
}

func TestP11_2Changed(t *testing.T) {
	right := 0
	for space, n := range spaces() {
		for _, first := range all(n) {
			for _, f := range changes(n) {
				o := clone(first)
				f(&o)
				holds(t, o, space)
				holds(t, o, 3-space)
				if Right(o, space) {
					right++
				}
			}
		}
	}
	if right < 200 {
		t.Error("few are right:", right)
	}
}

func TestP11_2Limit(t *testing.T) {
	for space, n := range spaces() {
		for _, o := range []api.Object{blob(), commit(n), tag(n)} {
			o.Text = ""
			rest := api.MaxObject - len(plainPrint(o))
			for _, more := range []int{-1, 0, 1, 2, 1000, api.MaxObject} {
				o.Text = strings.Repeat("x", rest+more)
				holds(t, o, space)
				if _, e := Print(o, space); (e == api.ErrLimit) != (more > 0) {
					t.Error(o.Kind, more, e)
				}
			}
		}
		widest := api.Object{Kind: api.Tree, Entries: entries(512, n, 64)}
		holds(t, widest, space)
		if !Right(widest, space) {
			t.Error("the widest tree isn't right")
		}
	}
}

func TestP11_2Order(t *testing.T) {
	long := strings.Repeat("x", api.MaxObject+1)
	for _, c := range []struct {
		o     api.Object
		space int
		want  api.Errno
	}{
		{api.Object{Kind: 9, Text: long}, 0, api.ErrRange},
		{api.Object{Kind: 9, Text: long}, 1, api.ErrKind},
		{api.Object{Kind: 1, Text: long}, 3, api.ErrRange},
		{api.Object{Kind: 1, Text: long}, 2, api.ErrLimit},
		{api.Object{Kind: 1, Text: long, When: 1}, 2, api.ErrForm},
		{api.Object{Kind: 2, Text: long}, 2, api.ErrForm},
		{api.Object{Kind: 2, Entries: entries(2000, 32, 64)}, 2, api.ErrForm},
		{api.Object{Kind: 3, Text: long, Tree: id(32, 1), Who: "a"}, 2, api.ErrLimit},
		{api.Object{Kind: 3, Text: long, Tree: id(32, 1), Who: "a"}, 1, api.ErrForm},
		{api.Object{Kind: 3, Tree: id(20, 1), Who: long}, 1, api.ErrForm},
		{api.Object{Kind: 4, Text: long, Target: id(20, 1), Of: 1, Name: "a", Who: "a"}, 1, api.ErrLimit},
		{api.Object{Kind: 4, Text: long, Target: id(20, 1), Of: 5, Name: "a", Who: "a"}, 1, api.ErrForm},
		{api.Object{Kind: 4, Target: id(20, 1), Of: 1, Name: long, Who: "a"}, 1, api.ErrForm},
	} {
		if s, e := Print(c.o, c.space); s != "" || e != c.want {
			t.Errorf("Print(kind %d, %d): %d, not %d", c.o.Kind, c.space, e, c.want)
		}
	}
}

func TestP11_3Errors(t *testing.T) {
	long := strings.Repeat("x", api.MaxObject+1)
	for _, c := range []struct {
		kind    int
		content string
		space   int
		want    api.Errno
	}{
		{9, long, 3, api.ErrRange}, {1, "", 0, api.ErrRange}, {9, long, 1, api.ErrKind}, {0, "", 2, api.ErrKind},
		{1, long, 1, api.ErrLimit}, {2, long, 1, api.ErrLimit}, {3, long, 2, api.ErrLimit}, {4, long, 2, api.ErrLimit},
		{2, long[1:], 1, api.ErrForm}, {3, long[1:], 1, api.ErrForm}, {4, long[1:], 1, api.ErrForm}, {3, "", 1, api.ErrForm}, {4, "", 1, api.ErrForm},
	} {
		if o, e := Parse(c.kind, c.content, c.space); e != c.want || !reflect.DeepEqual(o, api.Object{}) {
			t.Errorf("Parse(%d, %.20q, %d): %d, not %d", c.kind, c.content, c.space, e, c.want)
		}
	}
	for _, other := range noNumbers() {
		if _, e := Parse(api.Blob, "", other); e != api.ErrRange {
			t.Error("space", other, e)
		}
		if _, e := Parse(other, "", api.Wide); e != api.ErrKind {
			t.Error("kind", other, e)
		}
	}
	if o, e := Parse(api.Blob, long[1:], api.Wide); e != api.OK || o.Text != long[1:] {
		t.Error("the longest blob:", e)
	}
}

// What is nearly a content: one byte other, gone or doubled, and words put for others.
func TestP11_3Nearly(t *testing.T) {
	swaps := []string{
		"100644", "100755", "100755", "40000", "40000", "040000", "40000", "100644", "tree ", "tree", "tree ", "tree  ", "tree", "Tree", "parent ", "parents ", "author", "tagger",
		"tagger", "author", "object", "target", "\n\n", "\n", "\n\n", "\n \n", "\n\n", "\r\n\r\n", "ab", "AB", "cd", "cD", " 7\n", " 07\n", " 7\n", " +7\n", " 7\n", "\n", " 7\n", " 2147483647\n",
		" 7\n", " 2147483648\n", " 7\n", " 99999999999999999999\n", " 7\n", " -7\n", " 7\n", " 7 \n", " 7\n", " 7a\n", " 7\n", " 0x7\n", " 7\n", " 1_0\n", " 7\n", " 0\n", " 7\n", " 00\n", " 7\n", " -0\n",
		" 12\n", "\t12\n", " 12\n", "12\n", "type commit", "type blob", "type commit", "type commits", "type commit", "type ", "type commit\n", "", "tag v1/x", "tag v1 x", "tag v1/x", "tag ",
		"ann b ", "", "ann b ", " ", "ann b", strings.Repeat("w", 64), "ann b", strings.Repeat("w", 65), "ann b", "ann\x00b", "me", "\xff\xfe", "a b", "a/b", "a b", ".", "a b", "..", "a b", "", "a b", "a", "a b", strings.Repeat("a", 64), "a b", strings.Repeat("a", 65),
	}
	good := 0
	for space, n := range spaces() {
		for _, o := range append(all(n), api.Object{Kind: api.Commit, Tree: id(n, 1), Parents: numbered(8, n), Who: "a", Text: "parent x\n"}) {
			s := plainPrint(o)
			list := []string{s, s + s, "\n" + s, " " + s, s + "\n", s + "\x00", s + " "}
			for i := range len(s) {
				for _, c := range []byte{0, ' ', '\n', '0', '7', 'a', 'A', 'g', '/', 0xff} {
					list = append(list, s[:i]+string([]byte{c})+s[i+1:], s[:i]+string([]byte{c})+s[i:])
				}
				list = append(list, s[:i], s[i:], s[:i]+s[i+1:])
			}
			for i := 0; i < len(swaps); i += 2 {
				list = append(list, strings.Replace(s, swaps[i], swaps[i+1], 1), strings.ReplaceAll(s, swaps[i], swaps[i+1]))
			}
			lines := strings.SplitAfter(s, "\n")
			for i := range lines {
				for j := range lines {
					l := slices.Clone(lines)
					l[i], l[j] = l[j], l[i]
					list = append(list, strings.Join(l, ""), strings.Join(lines[:i], "")+lines[j]+strings.Join(lines[i:], ""))
				}
			}
			for _, x := range list {
				if parses(t, o.Kind, x, space) {
					good++
				}
				if len(x) < 80 {
					parses(t, o.Kind%4+1, x, space)
				}
			}
			parses(t, o.Kind, s, 3-space)
		}
	}
	if good < 1000 {
		t.Error("few are right:", good)
	}
}

// As many entries and parents as may be, and one more.
func TestP11_3Many(t *testing.T) {
	for space, n := range spaces() {
		for _, many := range []int{511, 512, 513} {
			if parses(t, api.Tree, plainPrint(api.Object{Kind: api.Tree, Entries: entries(many, n, 3)}), space) != (many <= 512) {
				t.Error("entries", many)
			}
		}
		for _, many := range []int{7, 8, 9, 500} {
			o := commit(n)
			o.Parents = numbered(many, n)
			if parses(t, api.Commit, plainPrint(o), space) != (many <= 8) {
				t.Error("parents", many)
			}
		}
		o := commit(n)
		o.Parents = append(o.Parents, o.Parents[0])
		if parses(t, api.Commit, plainPrint(o), space) {
			t.Error("a parent twice")
		}
	}
}

// randomObject: right in the space of names of n bytes, mostly of few unlike parts, so that two are often nearly the same.
func randomObject(r *rand.Rand, n int) api.Object {
	pick := func(l ...string) string { return l[r.Intn(len(l))] }
	name := func() string { return id(n, byte(r.Intn(3))) }
	o := api.Object{Kind: 1 + r.Intn(4)}
	switch o.Kind {
	case api.Tree:
		for _, x := range []string{" ", "a", "a ", "a b", "b", "\xff"} {
			if r.Intn(2) == 0 {
				o.Entries = append(o.Entries, api.Entry{Mode: 1 + r.Intn(3), Name: x, Id: name()})
			}
		}
		return o
	case api.Commit:
		o.Tree = name()
		for _, i := range r.Perm(3)[:r.Intn(4)] {
			o.Parents = append(o.Parents, id(n, byte(i)))
		}
	case api.Tag:
		o.Target, o.Of, o.Name = name(), 1+r.Intn(4), pick("a", "b", "a/b", "-")
	}
	if o.Kind != api.Blob {
		o.Who, o.When = pick(" ", "a", "a 1", "a ", "a 1 1"), []int{0, 1, 11, api.MaxWhen}[r.Intn(4)]
	}
	o.Text = pick("", "\n", "a", "author a 1\n\n", "\n\n", "parent ")
	return o
}

func TestP11_4ThereAndBack(t *testing.T) {
	r := rand.New(rand.NewSource(11))
	for space, n := range spaces() {
		had := map[[2]string]api.Object{}
		for range 20000 {
			o := randomObject(r, n)
			holds(t, o, space)
			s, e := Print(o, space)
			if e != api.OK {
				t.Fatal(e)
			}
			key := [2]string{strconv.Itoa(o.Kind), s}
			if p, ok := had[key]; ok && !Same(o, p) {
				t.Errorf("one content of two objects: %v, %v", o, p)
			}
			had[key] = o
		}
	}
}

// What is handed in stays as it was, its spare room too, and an answer shares nothing with another one.
func TestP11_4Alone(t *testing.T) {
	for space, n := range spaces() {
		for _, o := range all(n) {
			p := clone(o)
			p.Entries, p.Parents = append(p.Entries, api.Entry{Name: "spare"})[:len(o.Entries)], append(p.Parents, "spare")[:len(o.Parents)]
			q := clone(p)
			Right(p, space)
			s, _ := Print(p, space)
			Same(p, q)
			if !plainSame(p, o) || p.Entries[:len(o.Entries)+1][len(o.Entries)].Name != "spare" || p.Parents[:len(o.Parents)+1][len(o.Parents)] != "spare" {
				t.Errorf("changed: %v", p)
			}
			a, _ := Parse(o.Kind, s, space)
			b, _ := Parse(o.Kind, s, space)
			for i := range a.Entries {
				a.Entries[i].Name = "x"
			}
			for i := range a.Parents {
				a.Parents[i] = "x"
			}
			if !plainSame(b, o) {
				t.Errorf("shared: %v", b)
			}
		}
	}
}

func FuzzParse(f *testing.F) {
	for space, n := range spaces() {
		for _, o := range all(n) {
			f.Add(o.Kind, plainPrint(o), space)
		}
	}
	f.Fuzz(func(t *testing.T, kind int, content string, space int) {
		if spaces()[space] > 0 && kind >= 1 && kind <= 4 {
			parses(t, kind, content, space)
		}
	})
}
