package sha1

import (
	"bytes"
	oracle "crypto/sha1"
	"encoding"
	"encoding/binary"
	"encoding/hex"
	"math"
	"math/rand"
	"strings"
	"testing"
)

// some: n bytes that tell their places apart.
func some(r *rand.Rand, n int) string {
	b := make([]byte, n)
	r.Read(b)
	return string(b)
}

// chains: the beginning, ones whose words are all alike, and others.
func chains(r *rand.Rand) []Chain {
	out := []Chain{First(), {}}
	for _, x := range []uint32{1, 1 << 31, math.MaxUint32} {
		out = append(out, Chain{x, x, x, x, x})
	}
	for i := range 5 {
		var one Chain
		one[i] = math.MaxUint32
		out = append(out, one)
	}
	for range 20 {
		out = append(out, Chain{r.Uint32(), r.Uint32(), r.Uint32(), r.Uint32(), r.Uint32()})
	}
	return out
}

// told: the language's own digest of bytes.
func told(s string) string {
	d := oracle.Sum([]byte(s))
	return string(d[:])
}

// pressed: the chain behind 64 bytes, by the language's own SHA-1.
func pressed(t *testing.T, c Chain, block string) Chain {
	t.Helper()
	h := oracle.New()
	state := []byte("sha\x01")
	for _, w := range c {
		state = binary.BigEndian.AppendUint32(state, w)
	}
	state = binary.BigEndian.AppendUint64(append(state, make([]byte, 64)...), 0)
	if err := h.(encoding.BinaryUnmarshaler).UnmarshalBinary(state); err != nil {
		t.Fatal(err)
	}
	h.Write([]byte(block))
	state, err := h.(encoding.BinaryMarshaler).MarshalBinary()
	if err != nil {
		t.Fatal(err)
	}
	for i := range c {
		c[i] = binary.BigEndian.Uint32(state[4+4*i:])
	}
	return c
}

// rot: x turned to the left by n bits, bit by bit.
func rot(x uint32, n int) uint32 {
	for range n {
		x = x<<1 | x>>31
	}
	return x
}

// stepped: a step, by the document's words.
func stepped(l Chain, t int, w uint32) Chain {
	a, b, c, d, e := l[0], l[1], l[2], l[3], l[4]
	t = max(0, min(t, 79))
	var f, k uint32
	switch t / 20 {
	case 0:
		f, k = (b&c)|(^b&d), 0x5a827999
	case 1:
		f, k = b^c^d, 0x6ed9eba1
	case 2:
		f, k = (b&c)|(b&d)|(c&d), 0x8f1bbcdc
	case 3:
		f, k = b^c^d, 0xca62c1d6
	}
	sum := rot(a, 5) + f + e + k + w
	e = d
	d = c
	c = rot(b, 30)
	b = a
	a = sum
	return Chain{a, b, c, d, e}
}

// steps: all of them, and such as are none.
func steps() []int {
	out := []int{-1, -2, -20, -79, -80, math.MinInt, math.MinInt32, 80, 81, 99, 100, 159, math.MaxInt, math.MaxInt32, 1 << 32}
	for t := range 80 {
		out = append(out, t)
	}
	return out
}

func TestP2_1First(t *testing.T) {
	want := Chain{0x67452301, 0xefcdab89, 0x98badcfe, 0x10325476, 0xc3d2e1f0}
	c := First()
	if c != want {
		t.Errorf("First: %x", c)
	}
	c[0]++
	if First() != want {
		t.Errorf("First, once its answer was changed: %x", First())
	}
}

func TestP2_1Expand(t *testing.T) {
	r := rand.New(rand.NewSource(1))
	for n := range 200 {
		block := some(r, n)
		var whole [64]byte
		copy(whole[:], block)
		var want Words
		for i := range 16 {
			want[i] = binary.BigEndian.Uint32(whole[4*i:])
		}
		for i := 16; i < 80; i++ {
			want[i] = rot(want[i-3]^want[i-8]^want[i-14]^want[i-16], 1)
		}
		if w := Expand(block); w != want {
			t.Errorf("Expand of %d bytes: %x, not %x", n, w, want)
		}
	}
	if w := Expand(""); w != (Words{}) {
		t.Errorf("Expand of nothing: %x", w)
	}
}

func TestP2_1Step(t *testing.T) {
	r := rand.New(rand.NewSource(2))
	for _, c := range chains(r) {
		for _, i := range steps() {
			for _, w := range []uint32{0, 1, 1 << 31, math.MaxUint32, r.Uint32()} {
				if x := Step(c, i, w); x != stepped(c, i, w) {
					t.Fatalf("Step(%x, %d, %x): %x, not %x", c, i, w, x, stepped(c, i, w))
				}
			}
		}
	}
}

// Each quarter of the steps has a first and a last one, and its neighbours answer otherwise.
func TestP2_1StepQuarters(t *testing.T) {
	c := First()
	for _, last := range []int{19, 39, 59} {
		if Step(c, last, 7) == Step(c, last+1, 7) {
			t.Errorf("steps %d and %d are the same", last, last+1)
		}
		if Step(c, last-19, 7) != Step(c, last, 7) {
			t.Errorf("steps %d and %d are unlike", last-19, last)
		}
	}
	for _, i := range steps() {
		if i < 0 && (Step(c, i, 7) != Step(c, 0, 7) || Back(c, i, 7) != Back(c, 0, 7)) {
			t.Errorf("step %d isn't as 0", i)
		}
		if i > 79 && (Step(c, i, 7) != Step(c, 79, 7) || Back(c, i, 7) != Back(c, 79, 7)) {
			t.Errorf("step %d isn't as 79", i)
		}
	}
}

func TestP2_1Press(t *testing.T) {
	r := rand.New(rand.NewSource(3))
	for _, c := range chains(r) {
		before := c
		for _, n := range []int{0, 1, 3, 4, 5, 8, 20, 55, 56, 63, 64, 65, 127, 128, 1000} {
			block := some(r, n)
			whole := (block + strings.Repeat("\x00", 64))[:64]
			if x := Press(c, block); x != pressed(t, c, whole) {
				t.Errorf("Press(%x, %d bytes): %x, not %x", c, n, x, pressed(t, c, whole))
			}
		}
		if c != before {
			t.Errorf("Press changed %x to %x", before, c)
		}
	}
}

// A block is pressed by the 80 steps of its words.
func TestP2_1PressBySteps(t *testing.T) {
	r := rand.New(rand.NewSource(4))
	for _, c := range chains(r) {
		block := some(r, 64)
		w := Expand(block)
		x := c
		for i := range w {
			x = Step(x, i, w[i])
		}
		for i := range x {
			x[i] += c[i]
		}
		if Press(c, block) != x {
			t.Errorf("Press(%x, %x): %x, not %x", c, block, Press(c, block), x)
		}
	}
}

func TestP2_2Sum(t *testing.T) {
	for _, c := range []struct{ text, digits string }{
		{"", "da39a3ee5e6b4b0d3255bfef95601890afd80709"},
		{"abc", "a9993e364706816aba3e25717850c26c9cd0d89d"},
		{"abcdbcdecdefdefgefghfghighijhijkijkljklmklmnlmnomnopnopq", "84983e441c3bd26ebaae4aa1f95129e5e54670f1"},
		{strings.Repeat("a", 1000000), "34aa973cd4c4daa4f61eeb2bdbad27316534016f"},
		{"blob 0\x00", "e69de29bb2d1d6434b8b29ae775ad8c2e48c5391"},
	} {
		if d := hex.EncodeToString([]byte(Sum(c.text))); d != c.digits {
			t.Errorf("Sum(%.20q): %s", c.text, d)
		}
	}
	if Sum() != told("") || Sum([]string{}...) != told("") || Sum("", "", "") != told("") {
		t.Error("Sum of no parts, or of empty ones")
	}
}

// The filling takes a block more from 56 bytes of the last block on.
func TestP2_2SumEachLength(t *testing.T) {
	r := rand.New(rand.NewSource(5))
	for n := range 400 {
		for _, s := range []string{some(r, n), strings.Repeat("\x00", n), strings.Repeat("\xff", n), strings.Repeat("\x80", n)} {
			if d := Sum(s); d != told(s) {
				t.Errorf("Sum of %d bytes: %x, not %x", n, d, told(s))
			}
		}
	}
	// The number of bits fills one, two, three, four bytes.
	for _, n := range []int{31, 32, 8191, 8192, 65535, 65536, 1<<21 - 1, 1 << 21} {
		s := some(r, n)
		if d := Sum(s); d != told(s) {
			t.Errorf("Sum of %d bytes: %x, not %x", n, d, told(s))
		}
	}
}

// The number of bits goes past 32 bits: 2^29 bytes and a few more.
func TestP2_2SumLong(t *testing.T) {
	if testing.Short() {
		t.Skip("it is long")
	}
	s, h := New(), oracle.New()
	part := strings.Repeat("diptych.", 1<<17)
	raw := []byte(part)
	for range 1<<9 + 1 {
		s.Write(part)
		h.Write(raw)
	}
	if d := s.Sum(); d != string(h.Sum(nil)) {
		t.Errorf("Sum of %d bytes: %x", (1<<9+1)<<20, d)
	}
}

// Told in two parts at every place, a state answers what it answers told at once, and each of its sums leaves it as it was.
func TestP2_2Write(t *testing.T) {
	r := rand.New(rand.NewSource(6))
	for _, n := range []int{0, 1, 55, 56, 63, 64, 65, 127, 128, 129, 200} {
		text := some(r, n)
		for i := range n + 1 {
			s := New()
			if d := s.Sum(); d != told("") {
				t.Fatalf("a new state's sum: %x", d)
			}
			s.Write(text[:i])
			if d := s.Sum(); d != told(text[:i]) || s.Sum() != d {
				t.Errorf("the first %d of %d bytes: %x", i, n, d)
			}
			s.Write()
			s.Write("", text[i:], "")
			if d := s.Sum(); d != told(text) {
				t.Errorf("%d and %d bytes: %x, not %x", i, n-i, d, told(text))
			}
		}
	}
}

func TestP2_2WriteInOrder(t *testing.T) {
	s := New()
	s.Write("a", "b")
	s.Write("c")
	if s.Sum() != told("abc") {
		t.Errorf("a, b; c: %x", s.Sum())
	}
	if Sum("c", "b", "a") != told("cba") {
		t.Errorf("c, b, a: %x", Sum("c", "b", "a"))
	}
}

// A copy and what it was made of are told unlike things, at every filling of a block.
func TestP2_2Copy(t *testing.T) {
	r := rand.New(rand.NewSource(7))
	for n := range 130 {
		text, here, there := some(r, n), some(r, 70), some(r, 70)
		s := New()
		s.Write(text)
		c := s.Copy()
		if c.Sum() != told(text) {
			t.Errorf("a copy behind %d bytes: %x", n, c.Sum())
		}
		for i := range len(here) {
			s.Write(here[i : i+1])
			c.Write(there[i : i+1])
		}
		if s.Sum() != told(text+here) || c.Sum() != told(text+there) {
			t.Errorf("behind %d bytes a state and its copy don't go their own ways", n)
		}
	}
}

func TestP2_2StatesApart(t *testing.T) {
	a, b := New(), New()
	a.Write("abc")
	if b.Sum() != told("") || New().Sum() != told("") {
		t.Error("one state was told what another one was")
	}
}

// The parts' list belongs to the caller: it stays as it is, and what becomes of it later plays no part.
func TestP2_2PartsNotKept(t *testing.T) {
	parts := []string{"ab", "", "cd", "spare"}
	s := New()
	s.Write(parts[:3]...)
	if d := Sum(parts[:3]...); d != told("abcd") {
		t.Errorf("Sum of parts: %x", d)
	}
	if parts[0] != "ab" || parts[1] != "" || parts[2] != "cd" || parts[3] != "spare" {
		t.Errorf("parts: %q", parts)
	}
	parts[0], parts[2] = "x", "y"
	if s.Sum() != told("abcd") {
		t.Errorf("a state, once its parts were changed: %x", s.Sum())
	}
}

func TestP2_3Pieces(t *testing.T) {
	r := rand.New(rand.NewSource(8))
	for range 300 {
		text := some(r, r.Intn(600))
		var parts []string
		s, left := New(), text
		for len(left) > 0 {
			n := min(len(left), r.Intn(1+r.Intn(150)))
			parts = append(parts, left[:n])
			s.Write(left[:n])
			left = left[n:]
		}
		if Sum(parts...) != told(text) || s.Sum() != told(text) {
			t.Fatalf("%d bytes in %d parts: %x and %x, not %x", len(text), len(parts), Sum(parts...), s.Sum(), told(text))
		}
	}
}

func TestP2_3Back(t *testing.T) {
	r := rand.New(rand.NewSource(9))
	for _, c := range chains(r) {
		for _, i := range steps() {
			for _, w := range []uint32{0, 1, math.MaxUint32, r.Uint32()} {
				if x := Back(Step(c, i, w), i, w); x != c {
					t.Fatalf("Back of Step(%x, %d, %x): %x", c, i, w, x)
				}
				if x := Step(Back(c, i, w), i, w); x != c {
					t.Fatalf("Step of Back(%x, %d, %x): %x", c, i, w, x)
				}
			}
		}
	}
}

// All steps of a block are undone, from the last one to the first.
func TestP2_3BackAll(t *testing.T) {
	r := rand.New(rand.NewSource(10))
	for _, c := range chains(r) {
		w := Expand(some(r, 64))
		x := c
		for i := range w {
			x = Step(x, i, w[i])
		}
		for i := len(w) - 1; i >= 0; i-- {
			x = Back(x, i, w[i])
		}
		if x != c {
			t.Errorf("there and back %x is %x", c, x)
		}
	}
}

// Any bytes in any pieces: the language's own digest.
func FuzzSum(f *testing.F) {
	f.Add([]byte("abc"), uint8(1))
	f.Add(bytes.Repeat([]byte{0xff}, 130), uint8(63))
	f.Fuzz(func(t *testing.T, b []byte, piece uint8) {
		s := New()
		for left := b; len(left) > 0; {
			n := min(len(left), 1+int(piece))
			s.Write(string(left[:n]))
			left = left[n:]
		}
		if s.Sum() != told(string(b)) || Sum(string(b)) != s.Sum() {
			t.Errorf("%x in pieces of %d: %x", b, piece, s.Sum())
		}
	})
}
