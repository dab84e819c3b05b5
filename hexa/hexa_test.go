package hexa

import (
	"encoding/hex"
	"math"
	"slices"
	"strings"
	"testing"

	"diptych/api"
)

// samples: texts of 0 to 3 bytes that share many beginnings, and names of both spaces that part late.
func samples() []string {
	out := []string{""}
	for from := 0; from < len(out) && len(out[from]) < 3; from++ {
		for _, c := range []byte{0x00, 0x01, 0x10, 0xab, 0xff} {
			out = append(out, out[from]+string([]byte{c}))
		}
	}
	for _, n := range []int{19, 20, 21, 31, 32, 33} {
		long := strings.Repeat("\xab", n-1)
		out = append(out, long+"\x00", long+"\x01", long+"\xf0")
	}
	return out
}

func TestP1_1Digits(t *testing.T) {
	for _, c := range []struct{ bytes, digits string }{
		{"", ""}, {"\x00", "00"}, {"\x0f", "0f"}, {"\xf0", "f0"}, {"\xab\xcd", "abcd"}, {"\x01\x23\x45\x67\x89\xab\xcd\xef", "0123456789abcdef"},
	} {
		if s := Digits(c.bytes); s != c.digits {
			t.Errorf("Digits(%x): %q", c.bytes, s)
		}
	}
	for c := range 256 {
		b := string([]byte{byte(c), byte(255 - c)})
		if s := Digits(b); s != hex.EncodeToString([]byte(b)) {
			t.Errorf("Digits(%x): %q", b, s)
		}
	}
}

func TestP1_1Bytes(t *testing.T) {
	for c := range 256 {
		b := string([]byte{byte(c), byte(c ^ 0x5a)})
		if x, e := Bytes(hex.EncodeToString([]byte(b))); x != b || e != api.OK {
			t.Errorf("Bytes of the digits of %x: %x, %d", b, x, e)
		}
	}
	for _, s := range []string{"0", "abc", "0g", "g0", "AB", "aB", "Ab", " 00", "00 ", "0x", "0x00", "00\n", "é", "abcdeg", "\x00\x00", "\xff\xff"} {
		if x, e := Bytes(s); x != "" || e != api.ErrForm {
			t.Errorf("Bytes(%q): %x, %d", s, x, e)
		}
	}
}

// Each byte that is no digit is refused at either place of a pair.
func TestP1_1BytesEachByte(t *testing.T) {
	for c := range 256 {
		one := string([]byte{byte(c)})
		want := api.ErrForm
		if strings.Contains("0123456789abcdef", one) {
			want = api.OK
		}
		for _, s := range []string{one + "0", "0" + one, "00" + one + "0", "000" + one} {
			if _, e := Bytes(s); e != want {
				t.Errorf("Bytes(%q): %d", s, e)
			}
		}
	}
}

func TestP1_1Spaces(t *testing.T) {
	for space, want := range map[int]int{api.Narrow: 20, api.Wide: 32, 0: 0, 3: 0, -1: 0, 20: 0, 32: 0, math.MaxInt: 0, math.MinInt: 0} {
		if n := Size(space); n != want {
			t.Errorf("Size(%d): %d", space, n)
		}
	}
	for n := range 70 {
		want := 0
		if n == 20 {
			want = api.Narrow
		} else if n == 32 {
			want = api.Wide
		}
		if s := Space(strings.Repeat("\xff", n)); s != want {
			t.Errorf("Space of %d bytes: %d", n, s)
		}
	}
}

func TestP1_2Short(t *testing.T) {
	for n := range 70 {
		right, wrong := api.OK, api.ErrForm
		if n < 4 || n > 64 {
			right, wrong = api.ErrRange, api.ErrRange
		}
		if e := Short(strings.Repeat("a", n)); e != right {
			t.Errorf("Short of %d digits: %d", n, e)
		}
		if e := Short(strings.Repeat("G", n)); e != wrong {
			t.Errorf("Short of %d other bytes: %d", n, e)
		}
	}
	for c := range 256 {
		one := string([]byte{byte(c)})
		want := api.ErrForm
		if strings.Contains("0123456789abcdef", one) {
			want = api.OK
		}
		for _, s := range []string{one + "000", "00" + one + "0", "000" + one} {
			if e := Short(s); e != want {
				t.Errorf("Short(%q): %d", s, e)
			}
		}
	}
}

func TestP1_2Begins(t *testing.T) {
	for _, b := range samples() {
		digits := hex.EncodeToString([]byte(b))
		for n := range len(digits) + 1 {
			if !Begins(b, digits[:n]) {
				t.Errorf("Begins(%x, %q) is false", b, digits[:n])
			}
		}
		for _, short := range []string{digits + "0", digits + "00", "g", "x" + digits, strings.Repeat("0", 65)} {
			if Begins(b, short) {
				t.Errorf("Begins(%x, %q) is true", b, short)
			}
		}
	}
	if Begins("\xab\xcd", "ABCD") || Begins("\xab\xcd", "abd") || Begins("\xab\xcd", "bcd") || Begins("\xab\xcd", "ab\xcd") {
		t.Error("Begins takes what the digits don't begin with")
	}
}

func TestP1_2Find(t *testing.T) {
	l := []string{"\xab\xcd\x01", "\xab\xce\x02", "\xab\xcd\x12", "\xab\xcd\x01", "", "\xff\xff"}
	was := slices.Clone(l)
	for _, c := range []struct {
		short, name string
		err         api.Errno
	}{
		{"", "", api.ErrRange},
		{"abc", "", api.ErrRange},
		{"abg", "", api.ErrRange},
		{strings.Repeat("g", 65), "", api.ErrRange},
		{"abcg", "", api.ErrForm},
		{"ABCD", "", api.ErrForm},
		{strings.Repeat("g", 64), "", api.ErrForm},
		{"0000", "", api.ErrNone},
		{"abcd02", "", api.ErrNone},
		{"ffff0", "", api.ErrNone},
		{strings.Repeat("a", 64), "", api.ErrNone},
		{"abcd", "", api.ErrMany},
		{"abcd0", "\xab\xcd\x01", api.OK}, // there twice, but alike
		{"abcd01", "\xab\xcd\x01", api.OK},
		{"abcd1", "\xab\xcd\x12", api.OK},
		{"abce", "\xab\xce\x02", api.OK},
		{"ffff", "\xff\xff", api.OK},
	} {
		if x, e := Find(l, c.short); x != c.name || e != c.err {
			t.Errorf("Find(%q): %x, %d", c.short, x, e)
		}
	}
	if !slices.Equal(l, was) {
		t.Error("Find changed its list")
	}
	for _, none := range [][]string{nil, {}} {
		if x, e := Find(none, "abcd"); x != "" || e != api.ErrNone {
			t.Errorf("Find in no names: %x, %d", x, e)
		}
		if _, e := Find(none, "abc"); e != api.ErrRange {
			t.Errorf("Find of what is too short, in no names: %d", e)
		}
	}
}

// A whole name is found, and one that goes on where it ends is another one.
func TestP1_2FindWhole(t *testing.T) {
	narrow, wide := strings.Repeat("\xab", 20), strings.Repeat("\xab", 32)
	if x, e := Find([]string{wide}, Digits(wide)); x != wide || e != api.OK {
		t.Errorf("%x, %d", x, e)
	}
	if x, e := Find([]string{narrow, wide}, Digits(narrow)); x != "" || e != api.ErrMany {
		t.Errorf("%x, %d", x, e)
	}
	if x, e := Find([]string{narrow, wide}, Digits(narrow)+"a"); x != wide || e != api.OK {
		t.Errorf("%x, %d", x, e)
	}
}

func TestP1_3Least(t *testing.T) {
	l := []string{"\xab\xcd\x01", "\xab\xce\x02", "\xab\xcd\x02", "\xab\xcd\x01"}
	for _, c := range []struct {
		l    []string
		b    string
		want int
	}{
		{nil, "", 4},
		{nil, "\x01", 4},
		{nil, "\xab\xcd\xef", 4},
		{l, "", 4},
		{l, "\xab", 4},
		{l, "\xab\xcd", 4},
		{l, l[0], 6},
		{l, l[1], 4},
		{l, l[2], 6},
		{l, "\xab\xcd\x11", 5},
		{l, "\xab\xcd\x03\x04", 6},
		{l, "\xab\xcd\x01\x04", 7},
		{[]string{"\xab\xcd\xef"}, "\xab\xcd\xef", 4},
		{[]string{"\xab\xcd\xef\x01"}, "\xab\xcd\xef", 6},
		{[]string{""}, "\xab\xcd\xef", 4},
		{[]string{strings.Repeat("\xab", 31) + "\x00"}, strings.Repeat("\xab", 31) + "\x01", 64},
		{[]string{strings.Repeat("\xab", 32)}, strings.Repeat("\xab", 20), 40},
		{[]string{strings.Repeat("\xab", 20)}, strings.Repeat("\xab", 32), 41},
	} {
		if n := Least(c.l, c.b); n != c.want {
			t.Errorf("Least(%x, %x): %d, not %d", c.l, c.b, n, c.want)
		}
	}
}

// saidLeast: the promise's words, tried number by number.
func saidLeast(l []string, b string) int {
	digits := hex.EncodeToString([]byte(b))
	for n := 4; n < len(digits); n++ {
		if !slices.ContainsFunc(l, func(x string) bool {
			return x != b && strings.HasPrefix(hex.EncodeToString([]byte(x)), digits[:n])
		}) {
			return n
		}
	}
	return max(4, len(digits))
}

func TestP1_3LeastAsSaid(t *testing.T) {
	all := samples()
	for i, b := range all {
		for _, l := range [][]string{all, all[:i], all[i:], all[i : i+1], all[len(all)-1-i:]} {
			was := slices.Clone(l)
			if n, want := Least(l, b), saidLeast(l, b); n != want {
				t.Errorf("Least of %x among %d names: %d, not %d", b, len(l), n, want)
			}
			if !slices.Equal(l, was) {
				t.Fatal("Least changed its list")
			}
		}
	}
}

func TestP1_4ToldIsRead(t *testing.T) {
	for _, b := range samples() {
		if x, e := Bytes(Digits(b)); x != b || e != api.OK {
			t.Errorf("%x: %x, %d", b, x, e)
		}
	}
}

// Of names of one space, whose beginnings are short enough to be asked for, the least beginning finds, and a shorter one doesn't.
func TestP1_4LeastFinds(t *testing.T) {
	for _, size := range []int{2, 3, 20, 32} {
		var l []string
		for i := range 300 {
			b := []byte(strings.Repeat("\xab", size))
			b[size-1-i%size] = byte(i)
			b[(i*i)%size] ^= byte(i >> 1)
			l = append(l, string(b))
		}
		for _, b := range l {
			n := Least(l, b)
			if x, e := Find(l, Digits(b)[:n]); x != b || e != api.OK {
				t.Errorf("%x by %d digits: %x, %d", b, n, x, e)
			}
			if n == 4 {
				continue
			}
			if _, e := Find(l, Digits(b)[:n-1]); e != api.ErrMany {
				t.Errorf("%x by %d digits: %d", b, n-1, e)
			}
		}
	}
}
