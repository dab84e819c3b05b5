package detect

import (
	oracle "crypto/sha1"
	"encoding/binary"
	"encoding/hex"
	"math"
	"math/bits"
	"math/rand"
	"slices"
	"strings"
	"testing"

	"diptych/sha1"
)

// plainRow: a vector's row, by asking each word for those that it is made of.
func plainRow(v Vector) func(i int) uint32 {
	known := map[int]uint32{}
	for i := 0; i < 15; i++ {
		known[v.K+i] = 0
	}
	if v.Type == 2 {
		known[v.K+1] = bits.RotateLeft32(1, (31+v.B)%32)
		known[v.K+3] = bits.RotateLeft32(1, (31+v.B)%32)
	}
	known[v.K+15] = uint32(1) << v.B
	var at func(i int) uint32
	at = func(i int) uint32 {
		if d, ok := known[i]; ok {
			return d
		}
		var d uint32
		if i > v.K {
			d = bits.RotateLeft32(at(i-3)^at(i-8)^at(i-14)^at(i-16), 1)
		} else {
			d = bits.RotateLeft32(at(i+16), 31) ^ at(i+13) ^ at(i+8) ^ at(i+2)
		}
		known[i] = d
		return d
	}
	return at
}

// plainDifference: by the chapter's words.
func plainDifference(v Vector) sha1.Words {
	d := plainRow(v)
	var m sha1.Words
	for t := range m {
		m[t] = d(t) ^ bits.RotateLeft32(d(t-1), 5) ^ d(t-2) ^
			bits.RotateLeft32(d(t-3), 30) ^ bits.RotateLeft32(d(t-4), 30) ^ bits.RotateLeft32(d(t-5), 30)
	}
	return m
}

// register: SHA-1 as one row of words: a ahead of the step t stands at t+4, b to e in the places below it.
type register [85]uint32

func rot30(x uint32) uint32 { return bits.RotateLeft32(x, 30) }

// part: what the step t adds to its word and to rot30 of the word at t.
func (r *register) part(t int) uint32 {
	b, c, d := r[t+3], rot30(r[t+2]), rot30(r[t+1])
	f, k := b^c^d, []uint32{0x5a827999, 0x6ed9eba1, 0x8f1bbcdc, 0xca62c1d6}[t/20]
	switch t / 20 {
	case 0:
		f = d ^ b&(c^d)
	case 2:
		f = b&c ^ b&d ^ c&d
	}
	return bits.RotateLeft32(r[t+4], 5) + f + k
}

func (r *register) chain(t int) sha1.Chain {
	return sha1.Chain{r[t+4], r[t+3], rot30(r[t+2]), rot30(r[t+1]), rot30(r[t])}
}

func (r *register) forth(from, to int, w sha1.Words) {
	for t := from; t < to; t++ {
		r[t+5] = r.part(t) + rot30(r[t]) + w[t]
	}
}

func (r *register) aback(from int, w sha1.Words) {
	for t := from - 1; t >= 0; t-- {
		r[t] = bits.RotateLeft32(r[t+5]-r.part(t)-w[t], 2)
	}
}

func plus(x, y sha1.Chain) sha1.Chain {
	for i := range x {
		x[i] += y[i]
	}
	return x
}

// plainMarked: by the chapter's words; and the chain behind the block.
func plainMarked(c sha1.Chain, block string, m sha1.Words) (bool, sha1.Chain) {
	var w sha1.Words
	for i := range 16 {
		w[i] = binary.BigEndian.Uint32([]byte(block[4*i:]))
	}
	for t := 16; t < 80; t++ {
		w[t] = bits.RotateLeft32(w[t-3]^w[t-8]^w[t-14]^w[t-16], 1)
	}
	own := &register{bits.RotateLeft32(c[4], 2), bits.RotateLeft32(c[3], 2), bits.RotateLeft32(c[2], 2), c[1], c[0]}
	own.forth(0, 80, w)
	end := plus(c, own.chain(80))
	for t := range w {
		w[t] ^= m[t]
	}
	sibling := &register{}
	copy(sibling[58:63], own[58:63])
	sibling.aback(58, w)
	sibling.forth(58, 80, w)
	return plus(sibling.chain(0), sibling.chain(80)) == end, end
}

// plainFilled: s, filled up.
func plainFilled(s string) string {
	s, n := s+"\x80", len(s)
	for len(s)%64 != 56 {
		s += "\x00"
	}
	return s + string(binary.BigEndian.AppendUint64(nil, uint64(n)*8))
}

// plainAny: the numbers of the blocks that are marked; and the chain behind all.
func plainAny(s string, all []sha1.Words) ([]int, sha1.Chain) {
	var marked []int
	c := sha1.Chain{0x67452301, 0xefcdab89, 0x98badcfe, 0x10325476, 0xc3d2e1f0}
	filled := plainFilled(s)
	for i := 0; i < len(filled); i += 64 {
		_, end := plainMarked(c, filled[i:i+64], sha1.Words{})
		for _, m := range all {
			if yes, _ := plainMarked(c, filled[i:i+64], m); yes {
				marked = append(marked, i/64)
				break
			}
		}
		c = end
	}
	return marked, c
}

func digestOf(c sha1.Chain) string {
	var out []byte
	for _, w := range c {
		out = binary.BigEndian.AppendUint32(out, w)
	}
	return string(out)
}

func randomText(r *rand.Rand, n int) string {
	b := make([]byte, n)
	r.Read(b)
	return string(b)
}

func randomChain(r *rand.Rand) sha1.Chain {
	var c sha1.Chain
	for i := range c {
		c[i] = r.Uint32()
	}
	return c
}

func randomWords(r *rand.Rand) sha1.Words {
	var w sha1.Words
	for i := range w {
		w[i] = r.Uint32()
	}
	return w
}

// patch: a difference of one bit from the step t on, and of those bits that may undo it in the five steps behind: no vector's, but blocks that it marks are soon found.
func patch(t, bit int) sha1.Words {
	var m sha1.Words
	one := bits.RotateLeft32(1, bit)
	m[t], m[t+1], m[t+2] = one, bits.RotateLeft32(one, 5), one
	m[t+3], m[t+4], m[t+5] = rot30(one), rot30(one), rot30(one)
	return m
}

// The first 320 bytes of the two files of the SHA-1 collision that was published in 2017: a beginning of three blocks, then two blocks each.
const (
	collisionHead = "255044462d312e330a25e2e3cfd30a0a0a312030206f626a0a3c3c2f57696474682032203020522f4865696768742033" +
		"203020522f547970652034203020522f537562747970652035203020522f46696c7465722036203020522f436f6c6f72" +
		"53706163652037203020522f4c656e6774682038203020522f42697473506572436f6d706f6e656e7420383e3e0a7374" +
		"7265616d0affd8fffe00245348412d3120697320646561642121212121852fec092339759c39b1a1c63c4c97e1fffe01"
	collisionOne = "7f46dc93a6b67e013b029aaa1db2560b45ca67d688c7f84b8c4c791fe02b3df6" +
		"14f86db1690901c56b45c1530afedfb76038e972722fe7ad728f0e4904e046c2" +
		"30570fe9d41398abe12ef5bc942be33542a4802d98b5d70f2a332ec37fac3514" +
		"e74ddc0f2cc1a874cd0c78305a21566461309789606bd0bf3f98cda8044629a1"
	collisionTwo = "7346dc9166b67e118f029ab621b2560ff9ca67cca8c7f85ba84c79030c2b3de2" +
		"18f86db3a90901d5df45c14f26fedfb3dc38e96ac22fe7bd728f0e45bce046d2" +
		"3c570feb141398bb552ef5a0a82be331fea48037b8b5d71f0e332edf93ac3500" +
		"eb4ddc0decc1a864790c782c76215660dd309791d06bd0af3f98cda4bc4629b1"
)

func collision(t *testing.T) (string, string) {
	t.Helper()
	one, err := hex.DecodeString(collisionHead + collisionOne)
	if err != nil {
		t.Fatal(err)
	}
	two, err := hex.DecodeString(collisionHead + collisionTwo)
	if err != nil {
		t.Fatal(err)
	}
	return string(one), string(two)
}

func TestP5_1Vectors(t *testing.T) {
	want := []Vector{
		{1, 43, 0}, {1, 44, 0}, {1, 45, 0}, {1, 46, 0}, {1, 47, 0}, {1, 48, 0}, {1, 49, 0}, {1, 50, 0}, {1, 51, 0},
		{2, 45, 0}, {2, 46, 0}, {2, 47, 0}, {2, 48, 0}, {2, 49, 0}, {2, 50, 0}, {2, 51, 0}, {2, 52, 0}, {2, 53, 0},
		{2, 54, 0}, {2, 55, 0}, {2, 56, 0},
	}
	got := Vectors()
	if !slices.Equal(got, want) {
		t.Errorf("%v", got)
	}
	clear(got)
	if !slices.Equal(Vectors(), want) {
		t.Error("an answer is changed by changing an earlier one")
	}
}

func TestP5_1DifferenceOfAll(t *testing.T) {
	seen := map[sha1.Words]Vector{}
	for kind := 1; kind <= 2; kind++ {
		for k := 0; k <= 64; k++ {
			for b := 0; b <= 31; b++ {
				v := Vector{kind, k, b}
				m := Difference(v)
				if m != plainDifference(v) {
					t.Fatalf("%v: %x", v, m)
				}
				if other, ok := seen[m]; ok || m == (sha1.Words{}) {
					t.Fatalf("%v: as %v, or noughts", v, other)
				}
				seen[m] = v
			}
		}
	}
}

// A difference obeys the rule for words, so a sibling's words are those of a block, too.
func TestP5_1DifferenceIsOfABlock(t *testing.T) {
	for _, v := range Vectors() {
		m := Difference(v)
		var block []byte
		for _, w := range m[:16] {
			block = binary.BigEndian.AppendUint32(block, w)
		}
		if sha1.Expand(string(block)) != m {
			t.Errorf("%v", v)
		}
	}
}

func TestP5_1DifferenceNearTheSetWords(t *testing.T) {
	m := Difference(Vector{1, 43, 7})
	for i := 48; i <= 57; i++ {
		if m[i] != 0 {
			t.Errorf("type 1: %d: %x", i, m[i])
		}
	}
	if m[58] != 1<<7 {
		t.Errorf("type 1: %x", m[58])
	}
	// D65 and D67 are 1, as 31 + 1 is a whole turn; D79 is 2.
	m = Difference(Vector{2, 64, 1})
	want := []uint32{1, 0x20, 0, 0x40000020, 0x40000001, 0, 0x40000000, 0x40000000, 0, 0, 0, 0, 0, 0, 2}
	if got := m[65:]; !slices.Equal(got, want) {
		t.Errorf("type 2: %x", got)
	}
}

func TestP5_1DifferenceOfThePublishedCollision(t *testing.T) {
	one, two := collision(t)
	m := Difference(Vector{2, 52, 0})
	for at := 192; at < 320; at += 64 {
		x, y := sha1.Expand(one[at:at+64]), sha1.Expand(two[at:at+64])
		for i := range m {
			if x[i]^y[i] != m[i] {
				t.Fatalf("%d: %d: %x, not %x", at, i, m[i], x[i]^y[i])
			}
		}
	}
}

// strangers: vectors without a row.
func strangers() []Vector {
	return []Vector{
		{}, {0, 43, 0}, {3, 43, 0}, {-1, 43, 0}, {math.MinInt, 43, 0}, {math.MaxInt, 43, 0},
		{1, -1, 0}, {2, -1, 0}, {1, 65, 0}, {2, 65, 31}, {1, -5, 0}, {2, 80, 0}, {1, math.MinInt, 0}, {2, math.MaxInt, 0},
		{1, 43, -1}, {2, 50, -1}, {1, 43, 32}, {2, 50, 32}, {1, 0, math.MaxInt}, {2, 64, math.MinInt},
		{257, 43, 0}, {1, 43 + 1<<32, 0}, {1, 43, 1 << 32},
	}
}

func TestP5_1NoDifference(t *testing.T) {
	r := rand.New(rand.NewSource(51))
	for _, v := range strangers() {
		if Difference(v) != (sha1.Words{}) {
			t.Errorf("%v: %x", v, Difference(v))
		}
		for _, block := range []string{"", "x", randomText(r, 64), randomText(r, 100)} {
			if Marked(sha1.First(), block, v) || Marked(randomChain(r), block, v) {
				t.Errorf("%v marks %.20q", v, block)
			}
		}
	}
	// By words that are all noughts every block is its own sibling.
	if !pass(randomChain(r), randomText(r, 64)).markedBy(sha1.Words{}) {
		t.Error("noughts")
	}
}

func TestP5_1StepsAreLayer2s(t *testing.T) {
	r := rand.New(rand.NewSource(52))
	for range 200 {
		c, w := randomChain(r), randomWords(r)
		from, to := r.Intn(81), r.Intn(81)
		want := c
		for i := from; i < to; i++ {
			want = sha1.Step(want, i, w[i])
		}
		if ahead(c, w, from, to) != want {
			t.Fatalf("ahead: %d to %d", from, to)
		}
		want = c
		for i := from - 1; i >= 0; i-- {
			want = sha1.Back(want, i, w[i])
		}
		if back(c, w, from) != want {
			t.Fatalf("back: %d", from)
		}
	}
}

func TestP5_1MarkedByPatches(t *testing.T) {
	r := rand.New(rand.NewSource(53))
	// Those that end with step 57, begin with step 58, or touch the first or the last step, tell where the sibling parts from the block.
	for _, first := range []int{0, 20, 34, 52, 58, 60, 74} {
		found := 0
		for range 40000 {
			c, block, m := randomChain(r), randomText(r, 64), patch(first, 1)
			want, end := plainMarked(c, block, m)
			p := pass(c, block)
			if p.end != end {
				t.Fatal("the end")
			}
			if p.markedBy(m) != want {
				t.Fatalf("%d: %v: %x behind %x", first, want, block, c)
			}
			if want {
				found++
			}
			if found == 3 {
				break
			}
		}
		if found == 0 {
			t.Errorf("%d: none is marked", first)
		}
	}
}

func TestP5_1MarkedByVectors(t *testing.T) {
	r := rand.New(rand.NewSource(54))
	for range 20 {
		c, block := randomChain(r), randomText(r, 64)
		for _, v := range Vectors() {
			want, _ := plainMarked(c, block, plainDifference(v))
			if Marked(c, block, v) != want {
				t.Fatalf("%v: %x behind %x", v, block, c)
			}
		}
	}
}

func TestP5_1BlockIsReadAsExpandReadsIt(t *testing.T) {
	r := rand.New(rand.NewSource(55))
	for _, n := range []int{0, 1, 3, 4, 63} {
		c, s := randomChain(r), randomText(r, n)
		if pass(c, s) != pass(c, s+strings.Repeat("\x00", 64-n)) {
			t.Errorf("%d bytes", n)
		}
	}
	c, s := randomChain(r), randomText(r, 64)
	if pass(c, s+"more") != pass(c, s) {
		t.Error("more than 64 bytes")
	}
}

func TestP5_2Digest(t *testing.T) {
	r := rand.New(rand.NewSource(56))
	for n := range 260 {
		s := randomText(r, n)
		want := oracle.Sum([]byte(s))
		if d, marked := Scan(s); d != string(want[:]) || marked {
			t.Errorf("%d bytes: %x, %v", n, d, marked)
		}
	}
	s := strings.Repeat("diptych ", 1<<13)
	want := oracle.Sum([]byte(s))
	if d, marked := Scan(s); d != string(want[:]) || marked {
		t.Errorf("%x, %v", d, marked)
	}
	if d, marked := Scan("abc"); hex.EncodeToString([]byte(d)) != "a9993e364706816aba3e25717850c26c9cd0d89d" || marked {
		t.Errorf("abc: %x, %v", d, marked)
	}
}

func TestP5_2AllDifferences(t *testing.T) {
	var want []sha1.Words
	for _, v := range Vectors() {
		want = append(want, plainDifference(v))
	}
	if !slices.Equal(differences(), want) {
		t.Error("others")
	}
}

func TestP5_2Blocks(t *testing.T) {
	r := rand.New(rand.NewSource(57))
	// Of lengths around those where the filling takes a block more.
	for _, n := range []int{0, 1, 54, 55, 56, 63, 64, 65, 118, 119, 120, 127, 128, 183, 184, 200} {
		blocks := len(plainFilled(strings.Repeat("x", n))) / 64
		found := map[int]bool{}
		for range 20000 {
			s := randomText(r, n)
			all := []sha1.Words{patch(60, r.Intn(32)), patch(20, 1), patch(74, r.Intn(32))}
			want, end := plainAny(s, all)
			if digestOf(end) != sha1.Sum(s) {
				t.Fatalf("%d bytes: the digest", n)
			}
			if anyMarked(s, all) != (len(want) > 0) {
				t.Fatalf("%d bytes: the blocks %v are marked: %x", n, want, s)
			}
			if len(want) == 1 {
				found[want[0]] = true
			}
			// Of no bytes there is but one text.
			if len(found) == blocks {
				break
			}
		}
		if len(found) != blocks && n > 0 {
			t.Errorf("%d bytes: %d of %d blocks", n, len(found), blocks)
		}
	}
	if anyMarked("abc", nil) {
		t.Error("by none")
	}
}

// Behind step 57 the two halves' letters are unlike, so by the chapter's words neither is marked, though their blocks differ by the vector (2, 52, 0).
func TestP5_2PublishedCollision(t *testing.T) {
	one, two := collision(t)
	c := sha1.First()
	for at := 0; at < 192; at += 64 {
		c = sha1.Press(c, one[at:at+64])
	}
	if pass(c, one[192:256]).halted == pass(c, two[192:256]).halted {
		t.Error("alike behind step 57")
	}
	digest := "f92d74e3874587aaf443d1db961d4e26dde13e9c"
	for _, s := range []string{one, two} {
		d, marked := Scan(s)
		want, _ := plainAny(s, differences())
		if hex.EncodeToString([]byte(d)) != digest || marked != (len(want) > 0) || marked {
			t.Errorf("%x, %v", d, marked)
		}
	}
}

func FuzzScan(f *testing.F) {
	f.Add("", uint8(0))
	f.Add(strings.Repeat("x", 64), uint8(60))
	f.Fuzz(func(t *testing.T, s string, first uint8) {
		d, marked := Scan(s)
		want := oracle.Sum([]byte(s))
		some, _ := plainAny(s, differences())
		if d != string(want[:]) || marked != (len(some) > 0) {
			t.Errorf("%x, %v", d, marked)
		}
		all := []sha1.Words{patch(int(first)%75, 1)}
		some, _ = plainAny(s, all)
		if anyMarked(s, all) != (len(some) > 0) {
			t.Errorf("%d: %v", first, some)
		}
	})
}
