package sha2

import (
	"bytes"
	oracle "crypto/sha256"
	"encoding/hex"
	"math/big"
	"math/rand"
	"strings"
	"testing"
)

// some: n bytes that tell their places apart.
func some(r *rand.Rand, n int) string {
	b := make([]byte, n)
	r.Read(b)
	return string(b)
}

// told: the language's own digest of bytes.
func told(s string) string {
	d := oracle.Sum256([]byte(s))
	return string(d[:])
}

// primes: the first n.
func primes(n int) []int64 {
	var out []int64
	for p := int64(2); len(out) < n; p++ {
		if big.NewInt(p).ProbablyPrime(10) {
			out = append(out, p)
		}
	}
	return out
}

// root: the greatest whole number whose k-th power is at most x, modulo 2^32.
func root(x *big.Int, k int64) uint32 {
	var r big.Int
	for bit := x.BitLen(); bit >= 0; bit-- {
		more := new(big.Int).SetBit(&r, bit, 1)
		if new(big.Int).Exp(more, big.NewInt(k), nil).Cmp(x) <= 0 {
			r.Set(more)
		}
	}
	return uint32(r.Uint64())
}

// The constants are worked out from the primes, so that none is mistyped.
func TestP3_1Constants(t *testing.T) {
	for i, p := range primes(64) {
		if k := root(new(big.Int).Lsh(big.NewInt(p), 96), 3); constants[i] != k {
			t.Errorf("K%d: %08x, not %08x", i, constants[i], k)
		}
	}
	for i, p := range primes(8) {
		if k := root(new(big.Int).Lsh(big.NewInt(p), 64), 2); first()[i] != k {
			t.Errorf("the chain's word %d: %08x, not %08x", i, first()[i], k)
		}
	}
}

func TestP3_1Sum(t *testing.T) {
	for _, c := range []struct{ text, digits string }{
		{"", "e3b0c44298fc1c149afbf4c8996fb92427ae41e4649b934ca495991b7852b855"},
		{"abc", "ba7816bf8f01cfea414140de5dae2223b00361a396177a9cb410ff61f20015ad"},
		{"abcdbcdecdefdefgefghfghighijhijkijkljklmklmnlmnomnopnopq", "248d6a61d20638b8e5c026930c3e6039a33ce45964ff2167f6ecedd419db06c1"},
		{strings.Repeat("a", 1000000), "cdc76e5c9914fb9281a1c7e284d73e67f1809a48a497200e046d39ccc7112cd0"},
		{"blob 0\x00", "473a0f4c3be8a93681a267e3b1e9a7dcda1185436fe141f7749120a303721813"},
	} {
		if d := hex.EncodeToString([]byte(Sum(c.text))); d != c.digits {
			t.Errorf("Sum(%.20q): %s", c.text, d)
		}
	}
	if Sum() != told("") || Sum([]string{}...) != told("") || Sum("", "", "") != told("") {
		t.Error("Sum of no parts, or of empty ones")
	}
}

// The filling takes a block more from 56 bytes of the last block on.
func TestP3_1SumEachLength(t *testing.T) {
	r := rand.New(rand.NewSource(1))
	for n := range 400 {
		for _, s := range []string{some(r, n), strings.Repeat("\x00", n), strings.Repeat("\xff", n), strings.Repeat("\x80", n)} {
			if d := Sum(s); d != told(s) {
				t.Errorf("Sum of %d bytes: %x, not %x", n, d, told(s))
			}
		}
	}
	// The number of bits fills one, two, three, four bytes.
	for _, n := range []int{31, 32, 8191, 8192, 65535, 65536, 1<<21 - 1, 1 << 21} {
		s := some(r, n)
		if d := Sum(s); d != told(s) {
			t.Errorf("Sum of %d bytes: %x, not %x", n, d, told(s))
		}
	}
}

// The number of bits goes past 32 bits: 2^29 bytes and a few more.
func TestP3_1SumLong(t *testing.T) {
	if testing.Short() {
		t.Skip("it is long")
	}
	s, h := New(), oracle.New()
	part := strings.Repeat("diptych.", 1<<17)
	raw := []byte(part)
	for range 1<<9 + 1 {
		s.Write(part)
		h.Write(raw)
	}
	if d := s.Sum(); d != string(h.Sum(nil)) {
		t.Errorf("Sum of %d bytes: %x", (1<<9+1)<<20, d)
	}
}

// Told in two parts at every place, a state answers what it answers told at once, and each of its sums leaves it as it was.
func TestP3_1Write(t *testing.T) {
	r := rand.New(rand.NewSource(2))
	for _, n := range []int{0, 1, 55, 56, 63, 64, 65, 127, 128, 129, 200} {
		text := some(r, n)
		for i := range n + 1 {
			s := New()
			if d := s.Sum(); d != told("") {
				t.Fatalf("a new state's sum: %x", d)
			}
			s.Write(text[:i])
			if d := s.Sum(); d != told(text[:i]) || s.Sum() != d {
				t.Errorf("the first %d of %d bytes: %x", i, n, d)
			}
			s.Write()
			s.Write("", text[i:], "")
			if d := s.Sum(); d != told(text) {
				t.Errorf("%d and %d bytes: %x, not %x", i, n-i, d, told(text))
			}
		}
	}
}

func TestP3_1WriteInOrder(t *testing.T) {
	s := New()
	s.Write("a", "b")
	s.Write("c")
	if s.Sum() != told("abc") {
		t.Errorf("a, b; c: %x", s.Sum())
	}
	if Sum("c", "b", "a") != told("cba") {
		t.Errorf("c, b, a: %x", Sum("c", "b", "a"))
	}
}

// A copy and what it was made of are told unlike things, at every filling of a block.
func TestP3_1Copy(t *testing.T) {
	r := rand.New(rand.NewSource(3))
	for n := range 130 {
		text, here, there := some(r, n), some(r, 70), some(r, 70)
		s := New()
		s.Write(text)
		c := s.Copy()
		if c.Sum() != told(text) {
			t.Errorf("a copy behind %d bytes: %x", n, c.Sum())
		}
		for i := range len(here) {
			s.Write(here[i : i+1])
			c.Write(there[i : i+1])
		}
		if s.Sum() != told(text+here) || c.Sum() != told(text+there) {
			t.Errorf("behind %d bytes a state and its copy don't go their own ways", n)
		}
	}
}

func TestP3_1StatesApart(t *testing.T) {
	a, b := New(), New()
	a.Write("abc")
	if b.Sum() != told("") || New().Sum() != told("") {
		t.Error("one state was told what another one was")
	}
}

// The parts' list belongs to the caller: it stays as it is, and what becomes of it later plays no part.
func TestP3_1PartsNotKept(t *testing.T) {
	parts := []string{"ab", "", "cd", "spare"}
	s := New()
	s.Write(parts[:3]...)
	if d := Sum(parts[:3]...); d != told("abcd") {
		t.Errorf("Sum of parts: %x", d)
	}
	if parts[0] != "ab" || parts[1] != "" || parts[2] != "cd" || parts[3] != "spare" {
		t.Errorf("parts: %q", parts)
	}
	parts[0], parts[2] = "x", "y"
	if s.Sum() != told("abcd") {
		t.Errorf("a state, once its parts were changed: %x", s.Sum())
	}
}

func TestP3_2Pieces(t *testing.T) {
	r := rand.New(rand.NewSource(4))
	for range 300 {
		text := some(r, r.Intn(600))
		var parts []string
		s, left := New(), text
		for len(left) > 0 {
			n := min(len(left), r.Intn(1+r.Intn(150)))
			parts = append(parts, left[:n])
			s.Write(left[:n])
			left = left[n:]
		}
		if Sum(parts...) != told(text) || s.Sum() != told(text) {
			t.Fatalf("%d bytes in %d parts: %x and %x, not %x", len(text), len(parts), Sum(parts...), s.Sum(), told(text))
		}
	}
}

// Three pieces with every pair of cuts, the second of which may fill a block to its end, or go past it.
func TestP3_2ThreePieces(t *testing.T) {
	text := some(rand.New(rand.NewSource(5)), 135)
	want := told(text)
	for i := range len(text) + 1 {
		for k := i; k <= len(text); k++ {
			if d := Sum(text[:i], text[i:k], text[k:]); d != want {
				t.Fatalf("cut at %d and %d: %x, not %x", i, k, d, want)
			}
		}
	}
}

// Any bytes in any pieces: the language's own digest.
func FuzzSum(f *testing.F) {
	f.Add([]byte("abc"), uint8(1))
	f.Add(bytes.Repeat([]byte{0xff}, 130), uint8(63))
	f.Fuzz(func(t *testing.T, b []byte, piece uint8) {
		s := New()
		for left := b; len(left) > 0; {
			n := min(len(left), 1+int(piece))
			s.Write(string(left[:n]))
			left = left[n:]
		}
		if s.Sum() != told(string(b)) || Sum(string(b)) != s.Sum() {
			t.Errorf("%x in pieces of %d: %x", b, piece, s.Sum())
		}
	})
}
