package ident

import (
	oracle1 "crypto/sha1"
	oracle2 "crypto/sha256"
	"encoding/hex"
	"fmt"
	"math"
	"math/rand"
	"reflect"
	"strings"
	"testing"

	"diptych/api"
	"diptych/detect"
)

func words() map[int]string {
	return map[int]string{api.Blob: "blob", api.Tree: "tree", api.Commit: "commit", api.Tag: "tag"}
}

// noNumbers: those of no kind; of no space neither, but for 1 and 2.
func noNumbers() []int {
	return []int{0, -1, -2, -3, -4, 5, 6, 20, 32, 256 + 1, 256 + 2, 1<<32 + 1, 1<<32 + 2, math.MinInt, math.MaxInt}
}

// plainRow: by the chapter's words.
func plainRow(kind int, content string) string {
	return fmt.Sprintf("%s %d%c%s", words()[kind], len(content), 0, content)
}

// plainId: by the language's own digests.
func plainId(space, kind int, content string) string {
	row := []byte(plainRow(kind, content))
	if space == api.Narrow {
		d := oracle1.Sum(row)
		return string(d[:])
	}
	d := oracle2.Sum256(row)
	return string(d[:])
}

func some(r *rand.Rand, n int) string {
	b := make([]byte, n)
	r.Read(b)
	return string(b)
}

// contents: those that look like a row's parts, and lengths about the edges of a decimal digit, of a digest's block, and of an object.
func contents() []string {
	r := rand.New(rand.NewSource(10))
	out := []string{"", "\x00", "0", " ", "hello world\n", "blob 0\x00", "1\x00", "commit 3\x00abc", "\xff\xfe", "é"}
	for _, n := range []int{9, 10, 46, 47, 48, 55, 56, 63, 64, 99, 100, 999, 1000, 9999, 10000, 65535, 65536} {
		out = append(out, some(r, n))
	}
	return out
}

// Spaces of another's making.
type (
	number7  struct{}
	number0  struct{}
	likeWide string
	bad      struct{}
	listed   []int
)

func (number7) Number() int  { return 7 }
func (number0) Number() int  { return 0 }
func (likeWide) Number() int { return api.Wide }
func (bad) Number() int      { panic("no number") }
func (l listed) Number() int { return l[0] }

func TestP10_1Words(t *testing.T) {
	for kind, word := range words() {
		if Word(kind) != word {
			t.Errorf("Word(%d): %q", kind, Word(kind))
		}
		if Kind(word) != kind {
			t.Errorf("Kind(%q): %d", word, Kind(word))
		}
		for _, other := range []string{
			strings.ToUpper(word), strings.ToUpper(word[:1]) + word[1:], " " + word, word + " ", word + "\x00", word + "s",
			word[1:], word[:len(word)-1], word + word,
		} {
			if Kind(other) != 0 {
				t.Errorf("Kind(%q): %d", other, Kind(other))
			}
		}
	}
	for _, kind := range noNumbers() {
		if Word(kind) != "" {
			t.Errorf("Word(%d): %q", kind, Word(kind))
		}
	}
	for _, word := range []string{"", " ", "\x00", "0", "1", "4", "object", "blobtree", strings.Repeat("blob", 10000)} {
		if Kind(word) != 0 {
			t.Errorf("Kind(%.20q): %d", word, Kind(word))
		}
	}
}

func TestP10_1Row(t *testing.T) {
	for _, c := range []struct {
		kind         int
		content, row string
	}{
		{api.Blob, "", "blob 0\x00"}, {api.Tree, "x", "tree 1\x00x"}, {api.Commit, "\x00\x00", "commit 2\x00\x00\x00"},
		{api.Tag, "blob 0\x00", "tag 7\x00blob 0\x00"}, {api.Blob, "é", "blob 2\x00é"}, {api.Blob, "0123456789", "blob 10\x000123456789"},
	} {
		if row := Row(c.kind, c.content); row != c.row {
			t.Errorf("Row(%d, %q): %q", c.kind, c.content, row)
		}
	}
	for kind := range words() {
		for _, content := range contents() {
			if Row(kind, content) != plainRow(kind, content) {
				t.Errorf("Row(%d, %.20q): %.40q", kind, content, Row(kind, content))
			}
		}
	}
	for _, kind := range noNumbers() {
		if Row(kind, "") != "" || Row(kind, "abc") != "" {
			t.Errorf("Row(%d, ..): %q, %q", kind, Row(kind, ""), Row(kind, "abc"))
		}
	}
}

// A row has no greatest length: it is a name's that has one.
func TestP10_1RowLong(t *testing.T) {
	for _, n := range []int{65536, 65537, 1 << 20, 10_000_000} {
		content := strings.Repeat("y", n)
		if row := Row(api.Tag, content); row != plainRow(api.Tag, content) {
			t.Errorf("the row of %d bytes: %.20q.., of %d", n, row, len(row))
		}
	}
}

func TestP10_2IdKnown(t *testing.T) {
	for _, c := range []struct {
		kind         int
		content      string
		narrow, wide string
	}{
		{api.Blob, "", "e69de29bb2d1d6434b8b29ae775ad8c2e48c5391", "473a0f4c3be8a93681a267e3b1e9a7dcda1185436fe141f7749120a303721813"},
		{api.Blob, "hello world\n", "3b18e512dba79e4c8300dd08aeb37f8e728b8dad", "0bd69098bd9b9cc5934a610ab65da429b525361147faa7b5b922919e9a23143d"},
		{api.Tree, "", "4b825dc642cb6eb9a060e54bf8d69288fbee4904", "6ef19b41225c5369f1c104d45d8d85efa9b057b53b14b4b9b939dd74decc5321"},
		{api.Commit, "", "dcf5b16e76cce7425d0beaef62d79a7d10fce1f5", "9f2a7f3b00f22334f6adc2721fb1f89cd969f02264d37cf6a2c32ba09beb6822"},
		{api.Tag, "hello world\n", "9848898017f7bf39eb2f1866c8aa428d19aff367", "fb55db11e20dd7f3b612842b803625c2f7070b6a5e4de68a28e86e1433a47e48"},
	} {
		for space, want := range map[int]string{api.Narrow: c.narrow, api.Wide: c.wide} {
			b, e := Id(space, c.kind, c.content)
			if hex.EncodeToString([]byte(b)) != want || e != api.OK {
				t.Errorf("Id(%d, %d, %q): %x, %d", space, c.kind, c.content, b, e)
			}
		}
	}
}

func TestP10_2Id(t *testing.T) {
	for kind := range words() {
		for _, content := range contents() {
			for space, size := range map[int]int{api.Narrow: 20, api.Wide: 32} {
				b, e := Id(space, kind, content)
				if b != plainId(space, kind, content) || len(b) != size || e != api.OK {
					t.Errorf("Id(%d, %d, %.20q): %x, %d", space, kind, content, b, e)
				}
			}
		}
	}
}

func TestP10_2Errors(t *testing.T) {
	long := strings.Repeat("x", api.MaxObject+1)
	wrong := append(noNumbers(), 3, 4)
	for _, space := range append([]int{api.Narrow, api.Wide}, wrong...) {
		for _, kind := range noNumbers() {
			for _, content := range []string{"", "x", long} {
				if b, e := Id(space, kind, content); b != "" || e != api.ErrKind {
					t.Errorf("Id(%d, %d, %d bytes): %x, %d", space, kind, len(content), b, e)
				}
			}
		}
	}
	for kind := range words() {
		for _, space := range wrong {
			for _, content := range []string{"", "x", long} {
				if b, e := Id(space, kind, content); b != "" || e != api.ErrRange {
					t.Errorf("Id(%d, %d, %d bytes): %x, %d", space, kind, len(content), b, e)
				}
			}
		}
		for _, space := range []int{api.Narrow, api.Wide} {
			for _, content := range []string{long, long + long} {
				if b, e := Id(space, kind, content); b != "" || e != api.ErrLimit {
					t.Errorf("Id(%d, %d, %d bytes): %x, %d", space, kind, len(content), b, e)
				}
			}
			if b, e := Id(space, kind, long[1:]); b != plainId(space, kind, long[1:]) || e != api.OK {
				t.Errorf("Id(%d, %d, %d bytes): %x, %d", space, kind, len(long)-1, b, e)
			}
		}
	}
}

// A row that is marked has no name in the space Narrow; in the space Wide none is scanned. Other errors come ahead.
func TestP10_2Collision(t *testing.T) {
	var rows []string
	marks := func(s string) (string, bool) {
		rows = append(rows, s)
		return "digest", true
	}
	if b, e := scanned(api.Narrow, api.Commit, "abc", marks); b != "" || e != api.ErrCollision {
		t.Errorf("marked: %q, %d", b, e)
	}
	if len(rows) != 1 || rows[0] != "commit 3\x00abc" {
		t.Errorf("scanned: %q", rows)
	}
	long := strings.Repeat("x", api.MaxObject)
	if _, e := scanned(api.Narrow, api.Blob, long, marks); e != api.ErrCollision {
		t.Errorf("marked, of %d bytes: %d", len(long), e)
	}
	rows = nil
	if b, e := scanned(api.Wide, api.Commit, "abc", marks); b != plainId(api.Wide, api.Commit, "abc") || e != api.OK {
		t.Errorf("marked, in the space Wide: %x, %d", b, e)
	}
	for _, c := range []struct {
		space, kind int
		content     string
		want        api.Errno
	}{
		{api.Narrow, 0, "", api.ErrKind}, {0, api.Blob, "", api.ErrRange}, {api.Narrow, api.Blob, long + "x", api.ErrLimit},
	} {
		if b, e := scanned(c.space, c.kind, c.content, marks); b != "" || e != c.want {
			t.Errorf("marked, and error %d: %q, %d", c.want, b, e)
		}
	}
	if rows != nil {
		t.Errorf("scanned in vain: %.40q", rows)
	}
	passes := func(s string) (string, bool) { return "digest", false }
	if b, e := scanned(api.Narrow, api.Tag, "", passes); b != "digest" || e != api.OK {
		t.Errorf("not marked: %q, %d", b, e)
	}
}

// Id's scan is layer 5's.
func TestP10_2Scan(t *testing.T) {
	for _, content := range contents() {
		b, e := Id(api.Narrow, api.Blob, content)
		digest, marked := detect.Scan(plainRow(api.Blob, content))
		if marked != (e == api.ErrCollision) || !marked && b != digest {
			t.Errorf("%.20q: %x, %d; layer 5: %x, %v", content, b, e, digest, marked)
		}
	}
}

// made: names of every length, by Make.
func made[S Space](t *testing.T, size int) {
	t.Helper()
	r := rand.New(rand.NewSource(11))
	for n := range 70 {
		b := some(r, n)
		name, e := Make[S](b)
		if n != size {
			if name != (Name[S]{}) || !name.Zero() || name.Bytes() != "" || name.Digits() != "" || e != api.ErrForm {
				t.Errorf("of %d bytes: %x, %d", n, name.Bytes(), e)
			}
			continue
		}
		if name.Bytes() != b || name.Digits() != hex.EncodeToString([]byte(b)) || name.Zero() || e != api.OK {
			t.Errorf("of %d bytes: %x, %q, %v, %d", n, name.Bytes(), name.Digits(), name.Zero(), e)
		}
		// Noughts are bytes: their name isn't none.
		nought, e := Make[S](strings.Repeat("\x00", n))
		if nought.Zero() || nought == (Name[S]{}) || nought.Bytes() != strings.Repeat("\x00", n) || e != api.OK {
			t.Errorf("of %d noughts: %x, %d", n, nought.Bytes(), e)
		}
	}
	if _, e := Make[S](strings.Repeat("ab", 1000)); e != api.ErrForm {
		t.Errorf("of 2000 bytes: %d", e)
	}
}

func TestP10_3Make(t *testing.T) {
	made[NarrowSpace](t, 20)
	made[WideSpace](t, 32)
	made[likeWide](t, 32)
}

// A space of no number, or that can't be asked for it, has no names.
func TestP10_3MakeOfNoSpace(t *testing.T) {
	made[number7](t, -1)
	made[number0](t, -1)
	made[bad](t, -1)
	made[Space](t, -1)
	made[*WideSpace](t, -1)
}

func TestP10_3Numbers(t *testing.T) {
	if n := (NarrowSpace{}).Number(); n != api.Narrow {
		t.Errorf("NarrowSpace: %d", n)
	}
	if n := (WideSpace{}).Number(); n != api.Wide {
		t.Errorf("WideSpace: %d", n)
	}
	var s Space = WideSpace{}
	if s.Number() != api.Wide {
		t.Errorf("a Space that is WideSpace: %d", s.Number())
	}
}

// named: Of answers as Id of that space.
func named[S Space](t *testing.T, space int) {
	t.Helper()
	for _, content := range append(contents(), strings.Repeat("x", api.MaxObject+1)) {
		for _, kind := range []int{api.Blob, api.Tree, api.Commit, api.Tag, 0, 5, -1, math.MaxInt} {
			name, e := Of[S](kind, content)
			want, wantE := Id(space, kind, content)
			if e != wantE || name.Bytes() != want || name.Digits() != hex.EncodeToString([]byte(want)) {
				t.Errorf("Of(%d, %.20q): %x, %d, not %x, %d", kind, content, name.Bytes(), e, want, wantE)
			}
			if name.Zero() != (e != api.OK) || (name == Name[S]{}) != (e != api.OK) {
				t.Errorf("Of(%d, %.20q): none: %v, %d", kind, content, name.Zero(), e)
			}
			if e != api.OK {
				continue
			}
			if again, e := Make[S](name.Bytes()); again != name || e != api.OK {
				t.Errorf("Make of what Of(%d, %.20q) is: %x, %d", kind, content, again.Bytes(), e)
			}
		}
	}
}

func TestP10_3Of(t *testing.T) {
	named[NarrowSpace](t, api.Narrow)
	named[WideSpace](t, api.Wide)
	named[likeWide](t, api.Wide)
}

func TestP10_3OfNoSpace(t *testing.T) {
	named[number7](t, 7)
	named[number0](t, 0)
	named[bad](t, 0)
	named[Space](t, 0)
	named[*WideSpace](t, 0)
	// A space's values needn't be such as can be held against each other.
	if n, e := Of[listed](api.Blob, ""); !n.Zero() || n.Bytes() != "" || n.Digits() != "" || e != api.ErrRange {
		t.Errorf("a list without elements: %x, %d", n.Bytes(), e)
	}
}

func TestP10_3Zero(t *testing.T) {
	var narrow Name[NarrowSpace]
	var wide Name[WideSpace]
	var strange Name[Space]
	if !narrow.Zero() || !wide.Zero() || !strange.Zero() {
		t.Error("a zero value is a name")
	}
	if narrow.Bytes()+wide.Bytes()+strange.Bytes() != "" || narrow.Digits()+wide.Digits()+strange.Digits() != "" {
		t.Error("a zero value has bytes")
	}
}

// apart: no two objects of unlike kinds or contents have one name; the same ones have the same.
func apart[S Space](t *testing.T) {
	t.Helper()
	all := contents()
	for n := range 200 {
		all = append(all, strings.Repeat("1", 11+n), strings.Repeat("\x00", 2+n))
	}
	seen := map[Name[S]]string{}
	for kind := range words() {
		for _, content := range all {
			name, e := Of[S](kind, content)
			if e != api.OK {
				t.Fatal(e)
			}
			own := fmt.Sprint(kind, content)
			if was, ok := seen[name]; ok && was != own {
				t.Errorf("%s: as well %.20q as %.20q", name.Digits(), was, own)
			}
			seen[name] = own
			if again, _ := Of[S](kind, content); again != name {
				t.Errorf("%.20q: %s, then %s", own, name.Digits(), again.Digits())
			}
		}
	}
	if len(seen) != 4*len(all) {
		t.Errorf("%d names of %d objects", len(seen), 4*len(all))
	}
}

func TestP10_4NamesApart(t *testing.T) {
	apart[NarrowSpace](t)
	apart[WideSpace](t)
}

// Rows that could be read in two ways would be of two objects: what is told of kind and length keeps them apart.
func TestP10_4RowsApart(t *testing.T) {
	rows := map[string]bool{}
	parts := []string{"", "0", "1", " ", "\x00", "blob", "tree", "commit", "tag", "0\x00", "1\x00"}
	all := map[string]bool{}
	for _, a := range parts {
		for _, b := range parts {
			for _, c := range parts {
				all[a+b+c] = true
			}
		}
	}
	for kind := range words() {
		for content := range all {
			rows[Row(kind, content)] = true
		}
	}
	if len(rows) != 4*len(all) {
		t.Errorf("%d rows of %d objects", len(rows), 4*len(all))
	}
}

// A name says its space: by its type, which no conversion of the language turns into another one.
func TestP10_4NameSaysItsSpace(t *testing.T) {
	narrow, wide := reflect.TypeFor[Name[NarrowSpace]](), reflect.TypeFor[Name[WideSpace]]()
	if narrow == wide || narrow.ConvertibleTo(wide) || wide.ConvertibleTo(narrow) {
		t.Error("a name of one space can be turned into one of the other space")
	}
	n, _ := Of[NarrowSpace](api.Blob, "x")
	w, _ := Of[WideSpace](api.Blob, "x")
	if any(n) == any(w) || any(Name[NarrowSpace]{}) == any(Name[WideSpace]{}) {
		t.Error("names of two spaces are the same")
	}
	if _, e := Make[WideSpace](n.Bytes()); e != api.ErrForm {
		t.Errorf("a narrow name's bytes: %d", e)
	}
	if _, e := Make[NarrowSpace](w.Bytes()); e != api.ErrForm {
		t.Errorf("a wide name's bytes: %d", e)
	}
}

// Any numbers and bytes: the first error that is promised, or the language's own digest of the row by the chapter's words.
func FuzzId(f *testing.F) {
	f.Add(1, 1, "")
	f.Add(2, 4, "abc")
	f.Add(3, 0, "\x00")
	f.Fuzz(func(t *testing.T, space, kind int, content string) {
		b, e := Id(space, kind, content)
		want := api.OK
		switch {
		case kind < 1 || kind > 4:
			want = api.ErrKind
		case space != 1 && space != 2:
			want = api.ErrRange
		case len(content) > 65536:
			want = api.ErrLimit
		}
		if e != want || e != api.OK && b != "" || e == api.OK && b != plainId(space, kind, content) {
			t.Errorf("Id(%d, %d, %q): %x, %d", space, kind, content, b, e)
		}
	})
}
