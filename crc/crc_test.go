package crc

import (
	oracle "hash/crc32"
	"math/rand"
	"strings"
	"testing"

	"diptych/api"
)

// some: n bytes that tell their places apart.
func some(r *rand.Rand, n int) string {
	b := make([]byte, n)
	r.Read(b)
	return string(b)
}

// told: the language's own sum of bytes.
func told(s string) uint32 { return oracle.ChecksumIEEE([]byte(s)) }

// worded: the sum bit by bit, as the chapter's words say it, with no table.
func worded(s string) uint32 {
	word := uint32(0xffffffff)
	for i := range len(s) {
		word ^= uint32(s[i])
		for range 8 {
			went := word & 1
			word >>= 1
			if went == 1 {
				word ^= 0xedb88320
			}
		}
	}
	return ^word
}

// having: four bytes whose sum is the one given; the steps of a sum are undone from its end.
func having(sum uint32) string {
	word := ^sum
	for range 32 {
		// What was put in has its highest bit set, and a word that was moved has not.
		if word>>31 == 1 {
			word = (word^0xedb88320)<<1 | 1
		} else {
			word <<= 1
		}
	}
	word = ^word
	return string([]byte{byte(word), byte(word >> 8), byte(word >> 16), byte(word >> 24)})
}

// sums: edges of 32 bits, and some between.
func sums(r *rand.Rand) []uint32 {
	out := []uint32{0, 1, 0x7fffffff, 0x80000000, 0xffffffff, 0xedb88320, 0x12477cdf, 0x00ff00ff}
	for range 100 {
		out = append(out, r.Uint32())
	}
	return out
}

func TestP4_1Sum(t *testing.T) {
	for _, c := range []struct {
		text string
		sum  uint32
	}{
		{"", 0},
		{"a", 0xe8b7be43},
		{"abc", 0x352441c2},
		{"123456789", 0xcbf43926},
		{"The quick brown fox jumps over the lazy dog", 0x414fa339},
		{"\x00", 0xd202ef8d},
		{"\xff", 0xff000000},
		{"\x00\x00\x00\x00", 0x2144df1c},
		{"\xff\xff\xff\xff", 0xffffffff},
	} {
		if x := Sum(c.text); x != c.sum {
			t.Errorf("Sum(%q): %08x, not %08x", c.text, x, c.sum)
		}
	}
	if Sum() != 0 || Sum([]string{}...) != 0 || Sum("", "", "") != 0 {
		t.Error("Sum of no parts, or of empty ones")
	}
}

// Each byte alone reaches each of the table's places.
func TestP4_1SumEachByte(t *testing.T) {
	for b := range 256 {
		for _, s := range []string{string([]byte{byte(b)}), string([]byte{0xff, byte(b)}), string([]byte{byte(b), 0, 0, 0, 0, 1})} {
			if x := Sum(s); x != told(s) || x != worded(s) {
				t.Errorf("Sum(%q): %08x, not %08x", s, x, told(s))
			}
		}
	}
}

func TestP4_1SumEachLength(t *testing.T) {
	r := rand.New(rand.NewSource(1))
	for n := range 400 {
		for _, s := range []string{some(r, n), strings.Repeat("\x00", n), strings.Repeat("\xff", n), strings.Repeat("\x80", n)} {
			if x := Sum(s); x != told(s) || x != worded(s) {
				t.Errorf("Sum of %d bytes: %08x, not %08x", n, x, told(s))
			}
		}
	}
	for _, n := range []int{65535, 65536, 1 << 20, 1<<22 + 3} {
		s := some(r, n)
		if x := Sum(s); x != told(s) {
			t.Errorf("Sum of %d bytes: %08x, not %08x", n, x, told(s))
		}
	}
}

// Parts come in order, and where they are cut plays no part.
func TestP4_1SumParts(t *testing.T) {
	r := rand.New(rand.NewSource(2))
	text := some(r, 60)
	for i := range len(text) + 1 {
		for k := i; k <= len(text); k++ {
			if x := Sum(text[:i], "", text[i:k], text[k:], ""); x != told(text) {
				t.Fatalf("cut at %d and %d: %08x, not %08x", i, k, x, told(text))
			}
		}
	}
	if Sum("c", "b", "a") != told("cba") || Sum("a", "b", "c") != told("abc") {
		t.Error("parts in order")
	}
}

// The parts' list belongs to the caller.
func TestP4_1PartsNotChanged(t *testing.T) {
	parts := []string{"ab", "", "cd", "spare"}
	if x := Sum(parts[:3]...); x != told("abcd") {
		t.Errorf("Sum of parts: %08x", x)
	}
	if parts[0] != "ab" || parts[1] != "" || parts[2] != "cd" || parts[3] != "spare" {
		t.Errorf("parts: %q", parts)
	}
}

func TestP4_1More(t *testing.T) {
	r := rand.New(rand.NewSource(3))
	for n := range 130 {
		text := some(r, n)
		if x := More(0, text); x != told(text) {
			t.Errorf("More(0, %d bytes): %08x, not %08x", n, x, told(text))
		}
		for i := range n + 1 {
			if x := More(Sum(text[:i]), text[i:]); x != told(text) {
				t.Fatalf("%d and %d bytes: %08x, not %08x", i, n-i, x, told(text))
			}
		}
		var sum uint32
		for i := range n {
			sum = More(sum, text[i:i+1])
		}
		if sum != told(text) {
			t.Errorf("%d bytes one by one: %08x, not %08x", n, sum, told(text))
		}
	}
}

// Any word is the sum of some bytes, so More holds of any; and whichever bytes these are plays no part.
func TestP4_1MoreAnySum(t *testing.T) {
	r := rand.New(rand.NewSource(4))
	for _, sum := range sums(r) {
		head := having(sum)
		if Sum(head) != sum || told(head) != sum {
			t.Fatalf("the sum of %q is %08x, not %08x", head, Sum(head), sum)
		}
		if x := More(sum, ""); x != sum {
			t.Errorf("More(%08x, nothing): %08x", sum, x)
		}
		for _, s := range []string{"\x00", "\xff", "a", "123456789", some(r, 70)} {
			if x := More(sum, s); x != told(head+s) || x != oracle.Update(sum, oracle.IEEETable, []byte(s)) {
				t.Errorf("More(%08x, %q): %08x, not %08x", sum, s, x, told(head+s))
			}
		}
	}
}

func TestP4_2Seal(t *testing.T) {
	for _, c := range []struct{ text, sealed string }{
		{"", "\x00\x00\x00\x00"},
		{"a", "a\xe8\xb7\xbe\x43"},
		{"123456789", "123456789\xcb\xf4\x39\x26"},
		{"\xff\xff\xff\xff", "\xff\xff\xff\xff\xff\xff\xff\xff"},
		{"\x00\x00\x00\x00", "\x00\x00\x00\x00\x21\x44\xdf\x1c"},
	} {
		if s := Seal(c.text); s != c.sealed {
			t.Errorf("Seal(%q): %q, not %q", c.text, s, c.sealed)
		}
		if s, e := Open(c.sealed); s != c.text || e != api.OK {
			t.Errorf("Open(%q): %q, %d", c.sealed, s, e)
		}
	}
}

// Each of the sum's four bytes stands in its place, whatever it is.
func TestP4_2SealAnySum(t *testing.T) {
	for _, sum := range sums(rand.New(rand.NewSource(5))) {
		head := having(sum)
		tail := string([]byte{byte(sum >> 24), byte(sum >> 16), byte(sum >> 8), byte(sum)})
		if s := Seal(head); s != head+tail {
			t.Errorf("Seal(%q): %q, not %q", head, s, head+tail)
		}
		if s, e := Open(head + tail); s != head || e != api.OK {
			t.Errorf("Open(%q): %q, %d", head+tail, s, e)
		}
	}
}

func TestP4_2OpenShort(t *testing.T) {
	for _, s := range []string{"", "a", "ab", "abc", "\x00", "\x00\x00", "\x00\x00\x00", "\xff\xff\xff"} {
		if x, e := Open(s); x != "" || e != api.ErrShort {
			t.Errorf("Open(%q): %q, %d", s, x, e)
		}
	}
}

func TestP4_2OpenCorrupt(t *testing.T) {
	for _, s := range []string{
		"abcd", "\x00\x00\x00\x01", "\x01\x00\x00\x00", "\xff\xff\xff\xff",
		"b\xe8\xb7\xbe\x43",                  // another text
		"a\x43\xbe\xb7\xe8",                  // the lowest byte first
		"a\x17\x48\x41\xbc",                  // the bits not turned at the end
		"\xe8\xb7\xbe\x43a",                  // the sum ahead
		"a\xe8\xb7\xbe\x43\x00",              // a byte more
		"a\x00\xe8\xb7\xbe\x43",              // a byte between
		"\xe8\xb7\xbe\x43",                   // a byte fewer
		"123456789\xcb\xf4\x39\x26123456789", // not at the end
		"123456798\xcb\xf4\x39\x26",          // two bytes in each other's place
	} {
		if x, e := Open(s); x != "" || e != api.ErrCorrupt {
			t.Errorf("Open(%q): %q, %d", s, x, e)
		}
	}
}

// Open answers as the language's own sum says, of any four bytes or more.
func TestP4_2OpenAny(t *testing.T) {
	r := rand.New(rand.NewSource(6))
	for n := range 300 {
		s := some(r, n)
		if x, e := Open(Seal(s)); x != s || e != api.OK {
			t.Errorf("%d bytes sealed and opened: %d", n, e)
		}
		want := api.ErrShort
		if n >= 4 {
			want = api.ErrCorrupt
		}
		if x, e := Open(s); x != "" || e != want {
			t.Errorf("Open of %d bytes: %d bytes, %d", n, len(x), e)
		}
	}
}

// Sealed twice, opened twice; the inner seal is bytes like others.
func TestP4_3Twice(t *testing.T) {
	twice := Seal(Seal("abc"))
	once, e := Open(twice)
	if once != Seal("abc") || e != api.OK {
		t.Fatalf("opened once: %q, %d", once, e)
	}
	if s, e := Open(once); s != "abc" || e != api.OK {
		t.Errorf("opened twice: %q, %d", s, e)
	}
}

// turned: s with the bytes from place at on changed by those of by.
func turned(s string, at int, by []byte) string {
	b := []byte(s)
	for i, x := range by {
		b[at+i] ^= x
	}
	return string(b)
}

// refuses: sealed bytes that are turned from place at on don't open.
func refuses(t *testing.T, sealed string, at int, by []byte) {
	t.Helper()
	if x, e := Open(turned(sealed, at, by)); x != "" || e != api.ErrCorrupt {
		t.Errorf("%d bytes sealed, turned at %d by %x: %d bytes, %d", len(sealed), at, by, len(x), e)
	}
}

// Each bit alone, and each change of one byte, in s and in the sum.
func TestP4_3OneByte(t *testing.T) {
	r := rand.New(rand.NewSource(7))
	for _, n := range []int{0, 1, 2, 3, 4, 5, 9, 20} {
		sealed := Seal(some(r, n))
		for at := range len(sealed) {
			for by := 1; by < 256; by++ {
				refuses(t, sealed, at, []byte{byte(by)})
			}
		}
	}
}

// Up to four bytes next to each other, all of s or all of the sum, the outermost of them changed and those between in any way.
func TestP4_3UpToFourBytes(t *testing.T) {
	r := rand.New(rand.NewSource(8))
	for n := range 70 {
		sealed := Seal(some(r, n))
		for length := 2; length <= 4; length++ {
			for at := range len(sealed) - length + 1 {
				if at < n && at+length > n {
					continue
				}
				for range 20 {
					by := make([]byte, length)
					r.Read(by)
					by[0], by[length-1] = byte(1+r.Intn(255)), byte(1+r.Intn(255))
					refuses(t, sealed, at, by)
				}
				refuses(t, sealed, at, []byte("\xff\xff\xff\xff")[:length])
			}
		}
	}
}

// Any bytes: the sum is the language's own in any two pieces; what is sealed opens; what opens was sealed.
func FuzzOpen(f *testing.F) {
	f.Add([]byte(""), uint16(0))
	f.Add([]byte("a\xe8\xb7\xbe\x43"), uint16(1))
	f.Add([]byte("abc"), uint16(2))
	f.Fuzz(func(t *testing.T, b []byte, cut uint16) {
		s := string(b)
		i := int(cut) % (len(s) + 1)
		if Sum(s[:i], s[i:]) != told(s) || More(Sum(s[:i]), s[i:]) != told(s) {
			t.Errorf("the sum of %q cut at %d", s, i)
		}
		if x, e := Open(Seal(s)); x != s || e != api.OK {
			t.Errorf("%q sealed and opened: %q, %d", s, x, e)
		}
		x, e := Open(s)
		if e == api.OK && Seal(x) != s || e != api.OK && x != "" || (e == api.ErrShort) != (len(s) < 4) {
			t.Errorf("Open(%q): %q, %d", s, x, e)
		}
	})
}
