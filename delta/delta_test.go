package delta

import (
	"encoding/binary"
	"math"
	"math/rand"
	"strings"
	"testing"

	"diptych/api"
)

// worded: what a delta makes, read as the chapter's words say it.
func worded(base, delta string, most int) (string, api.Errno) {
	if len(delta) < 8 {
		return "", api.ErrShort
	}
	at := func(i int) uint64 { return uint64(binary.BigEndian.Uint32([]byte(delta[i : i+4]))) }
	if at(0) != uint64(len(base)) {
		return "", api.ErrStale
	}
	target := at(4)
	if most < 0 {
		most = 0
	}
	if target > uint64(most) {
		return "", api.ErrLimit
	}
	made := ""
	for i := 8; i < len(delta); {
		var more string
		switch delta[i] {
		case 1:
			if i+9 > len(delta) {
				return "", api.ErrShort
			}
			place, length := at(i+1), at(i+5)
			if place+length > uint64(len(base)) {
				return "", api.ErrForm
			}
			more = base[place : place+length]
			i += 9
		case 2:
			if i+5 > len(delta) || uint64(i+5)+at(i+1) > uint64(len(delta)) {
				return "", api.ErrShort
			}
			length := int(at(i + 1))
			more = delta[i+5 : i+5+length]
			i += 5 + length
		default:
			return "", api.ErrForm
		}
		if more == "" || uint64(len(made)+len(more)) > target {
			return "", api.ErrForm
		}
		made += more
	}
	if uint64(len(made)) < target {
		return "", api.ErrForm
	}
	return made, api.OK
}

// num: a number's bytes.
func num(n uint32) string { return string(binary.BigEndian.AppendUint32(nil, n)) }

// head: what a delta begins with.
func head(base, target int) string { return num(uint32(base)) + num(uint32(target)) }

// take: a step of the base's bytes.
func take(place, length uint32) string { return "\x01" + num(place) + num(length) }

// tell: a step of bytes as they are.
func tell(s string) string { return "\x02" + num(uint32(len(s))) + s }

// applies: d makes want of base, with just so much room and with more, and with a byte less it doesn't.
func applies(t *testing.T, base, d, want string) {
	t.Helper()
	for _, most := range []int{len(want), len(want) + 1, math.MaxInt} {
		if s, e := Apply(base, d, most); s != want || e != api.OK {
			t.Errorf("Apply(%.30q, %.60q, %d): %.30q, %d", base, d, most, s, e)
		}
	}
	if n, e := Size(d); n != len(want) || e != api.OK {
		t.Errorf("Size(%.60q): %d, %d", d, n, e)
	}
	if want == "" {
		return
	}
	for _, most := range []int{len(want) - 1, 0, -1, math.MinInt} {
		fails(t, base, d, most, api.ErrLimit)
	}
}

// fails: the error is the one that is wanted.
func fails(t *testing.T, base, d string, most int, want api.Errno) {
	t.Helper()
	if s, e := Apply(base, d, most); s != "" || e != want {
		t.Errorf("Apply(%.30q, %.60q, %d): %.30q, %d, not %d", base, d, most, s, e, want)
	}
}

// same: Apply answers as the words say.
func same(t *testing.T, base, d string, mosts ...int) {
	t.Helper()
	for _, most := range mosts {
		want, wantErr := worded(base, d, most)
		if s, e := Apply(base, d, most); s != want || e != wantErr {
			t.Fatalf("Apply(%q, %q, %d): %q, %d, not %q, %d", base, d, most, s, e, want, wantErr)
		}
	}
}

func TestP9_1ApplyExample(t *testing.T) {
	applies(t, "ab", "\x00\x00\x00\x02\x00\x00\x00\x04\x01\x00\x00\x00\x00\x00\x00\x00\x02\x01\x00\x00\x00\x00\x00\x00\x00\x02", "abab")
}

func TestP9_1ApplySteps(t *testing.T) {
	applies(t, "", head(0, 0), "")
	applies(t, "abc", head(3, 0), "")
	applies(t, "", head(0, 1)+tell("x"), "x")
	applies(t, "", head(0, 3)+tell("x")+tell("yz"), "xyz")
	applies(t, "abc", head(3, 3)+take(0, 3), "abc")
	applies(t, "abc", head(3, 1)+take(2, 1), "c")
	applies(t, "abc", head(3, 6)+take(1, 2)+tell("\x01\x02")+take(0, 2), "bc\x01\x02ab")
	applies(t, "abc", head(3, 9)+take(0, 3)+take(0, 3)+take(0, 3), "abcabcabc")
	applies(t, "\x00\xff", head(2, 4)+tell("\xff\x00")+take(0, 2), "\xff\x00\x00\xff")
	for n := 1; n < 600; n++ {
		s := strings.Repeat("0123456789", 60)
		applies(t, s, head(600, n)+take(uint32(600-n), uint32(n)), s[600-n:])
		applies(t, s, head(600, n)+tell(s[:n]), s[:n])
	}
}

// Each of a number's four bytes counts, in each of its places.
func TestP9_1ApplyNumbers(t *testing.T) {
	const size = 1<<24 + 1<<17 + 300
	b := make([]byte, size)
	rand.New(rand.NewSource(1)).Read(b)
	base := string(b)
	for _, place := range []int{0, 1, 255, 256, 257, 0xffff, 0x10000, 0x10203, 0xffffff, 0x1000000, 0x1000102, size - 1} {
		for _, length := range []int{1, 255, 256, 0x10000, 0x10203, 0x1000001} {
			if place+length <= size {
				applies(t, base, head(size, length)+take(uint32(place), uint32(length)), base[place:place+length])
			} else {
				fails(t, base, head(size, length)+take(uint32(place), uint32(length)), size, api.ErrForm)
			}
		}
	}
	told := base[:0x1010203]
	applies(t, base, head(size, len(told))+tell(told), told)
}

func TestP9_1ApplyShortHead(t *testing.T) {
	for n := range 8 {
		for _, h := range []string{head(0, 0), head(3, 5), head(-1, -1)} {
			for _, base := range []string{"", "abc"} {
				for _, most := range []int{math.MinInt, -1, 0, 5, math.MaxInt} {
					fails(t, base, h[:n], most, api.ErrShort)
				}
			}
		}
	}
}

func TestP9_1ApplyStale(t *testing.T) {
	for _, n := range []int{0, 1, 2, 3, 255, 256, 257, 65535, 65536, 65539, 1 << 24} {
		base := strings.Repeat("a", n)
		for _, told := range []uint32{0, 1, 2, 3, 255, 256, 257, 65535, 65536, 65539, 1 << 24, 1<<24 + 1, 1 << 31, 1<<32 - 1} {
			d := num(told) + num(1) + tell("x")
			if int(told) == n {
				applies(t, base, d, "x")
				continue
			}
			// Ahead of the limit, and of what is wrong in the steps.
			for _, most := range []int{-1, 0, 1, math.MaxInt} {
				fails(t, base, d, most, api.ErrStale)
				fails(t, base, num(told)+num(5)+"\x03", most, api.ErrStale)
				fails(t, base, num(told)+num(0), most, api.ErrStale)
			}
		}
	}
}

func TestP9_1ApplyLimit(t *testing.T) {
	// Ahead of what is wrong in the steps.
	for _, steps := range []string{"", "\x00", "\x01", "\x02\x00", take(0, 0), take(9, 9), tell("abcdef"), tell("abcde")} {
		fails(t, "abc", head(3, 5)+steps, 4, api.ErrLimit)
		fails(t, "abc", head(3, 5)+steps, 0, api.ErrLimit)
		fails(t, "abc", head(3, 5)+steps, math.MinInt, api.ErrLimit)
		fails(t, "abc", num(3)+num(1<<32-1)+steps, 1<<32-2, api.ErrLimit)
		fails(t, "abc", num(3)+num(1<<31)+steps, 1<<31-1, api.ErrLimit)
	}
	for _, most := range []int{math.MinInt, -9, -1, 0, 1, math.MaxInt} {
		if s, e := Apply("abc", head(3, 0), most); s != "" || e != api.OK {
			t.Errorf("the empty text, %d: %q, %d", most, s, e)
		}
		if most <= 0 {
			fails(t, "abc", head(3, 1)+take(0, 1), most, api.ErrLimit)
		}
	}
}

// A target of any length may be told: where the steps don't make it, no room is asked for.
func TestP9_1ApplyHugeTarget(t *testing.T) {
	for _, target := range []uint32{1 << 31, 1<<32 - 1} {
		fails(t, "abc", num(3)+num(target), math.MaxInt, api.ErrForm)
		fails(t, "abc", num(3)+num(target)+take(0, 3)+tell("x"), math.MaxInt, api.ErrForm)
		fails(t, "abc", num(3)+num(target)+take(0, 3)+"\x02", math.MaxInt, api.ErrShort)
	}
}

func TestP9_1ApplyShortStep(t *testing.T) {
	for _, step := range []string{take(0, 2), take(0, 0), take(9, 9), take(1<<32-1, 1<<32-1), tell("vw"), tell("vwxyz much too long")} {
		for n := 1; n < len(step); n++ {
			for _, ahead := range []string{"", tell("1"), take(2, 1), take(0, 3) + tell("45")} {
				fails(t, "abc", head(3, 5)+ahead+step[:n], 5, api.ErrShort)
				fails(t, "abc", head(3, 0)+step[:n], 0, api.ErrShort)
			}
		}
	}
	fails(t, "abc", head(3, 5)+"\x02"+num(1<<32-1)+"vwxyz", math.MaxInt, api.ErrShort)
	fails(t, "abc", head(3, 5)+"\x02"+num(1<<31)+"vwxyz", math.MaxInt, api.ErrShort)
}

func TestP9_1ApplyForm(t *testing.T) {
	// A step of another kind, with whatever behind it.
	for c := range 256 {
		for _, rest := range []string{"", "\x00", num(0) + num(3), num(3) + "xyz"} {
			if c != 1 && c != 2 {
				fails(t, "abc", head(3, 3)+string([]byte{byte(c)})+rest, 3, api.ErrForm)
				fails(t, "abc", head(3, 3)+take(0, 3)+string([]byte{byte(c)})+rest, 3, api.ErrForm)
			}
		}
	}
	for _, c := range []struct {
		target int
		steps  string
	}{
		// A length of 0.
		{0, take(0, 0)}, {0, tell("")}, {3, take(0, 3) + take(0, 0)}, {3, take(0, 0) + take(0, 3)}, {3, take(3, 0)}, {3, tell("") + tell("abc")}, {3, tell("abc") + tell("")},
		// Not in the base.
		{3, take(1, 3)}, {3, take(3, 1)}, {1, take(3, 1)}, {1, take(4, 1)}, {4, take(0, 4)}, {1, take(1<<32-1, 1)}, {1, take(1<<31, 1)},
		{3, take(1<<32-1, 4)}, {2, take(1<<32-1, 3)}, {3, take(1, 1<<32-1)}, {1, take(2, 1<<32-1)}, {3, take(0, 1<<31)}, {3, take(1<<32-1, 1<<32-1)}, {1, take(1<<24, 1)}, {1, take(1<<16, 1)}, {1, take(256, 1)},
		// Too much.
		{0, take(0, 1)}, {0, tell("x")}, {2, take(0, 3)}, {2, tell("xyz")}, {3, take(0, 3) + tell("x")}, {3, take(0, 3) + take(0, 1)}, {3, tell("xyz") + take(0, 1)}, {5, take(0, 3) + take(0, 3)}, {5, tell("xyz") + tell("xyz")},
		// Too little.
		{1, ""}, {4, take(0, 3)}, {4, tell("xyz")}, {7, take(0, 3) + tell("xyz")}, {256, take(0, 3)},
	} {
		for _, most := range []int{c.target, c.target + 1, math.MaxInt} {
			fails(t, "abc", head(3, c.target)+c.steps, most, api.ErrForm)
		}
	}
}

// The first step that is wrong says it.
func TestP9_1ApplyOrder(t *testing.T) {
	for _, c := range []struct {
		target int
		steps  string
		want   api.Errno
	}{
		{5, take(0, 0) + "\x01", api.ErrForm}, {5, "\x03" + "\x01\x00", api.ErrForm}, {5, take(3, 1) + "\x02", api.ErrForm},
		{2, take(0, 3) + "\x02", api.ErrForm}, {2, tell("xyz") + "\x01", api.ErrForm}, {5, take(0, 3) + "\x01", api.ErrShort},
		{5, take(0, 3) + "\x02" + num(9) + "x", api.ErrShort}, {5, take(0, 3) + "\x02" + num(0), api.ErrForm}, {0, "\x02" + num(1), api.ErrShort},
		{5, take(0, 3) + take(0, 3) + "\x01", api.ErrForm}, {5, tell("") + "\x02", api.ErrForm}, {9, take(0, 3) + "\x00", api.ErrForm},
	} {
		fails(t, "abc", head(3, c.target)+c.steps, 100, c.want)
		if s, e := worded("abc", head(3, c.target)+c.steps, 100); s != "" || e != c.want {
			t.Errorf("by the words %q: %q, %d", c.steps, s, e)
		}
	}
}

// some: a text of few letters.
func some(r *rand.Rand, most int) string {
	b := make([]byte, r.Intn(most+1))
	for i := range b {
		b[i] = "ab"[r.Intn(2)]
	}
	return string(b)
}

// course: a delta of base that is good, and what it makes.
func course(r *rand.Rand, base string) (string, string) {
	d, made := "", ""
	for range r.Intn(8) {
		if base == "" || r.Intn(2) == 0 {
			s := some(r, 20) + "c"
			d, made = d+tell(s), made+s
			continue
		}
		at := r.Intn(len(base))
		n := 1 + r.Intn(len(base)-at)
		d, made = d+take(uint32(at), uint32(n)), made+base[at:at+n]
	}
	return head(len(base), len(made)) + d, made
}

func TestP9_1ApplyCourses(t *testing.T) {
	r := rand.New(rand.NewSource(2))
	for range 5000 {
		base := some(r, 30)
		d, made := course(r, base)
		applies(t, base, d, made)
		// Cut off anywhere, and gone on with.
		same(t, base, d[:r.Intn(len(d)+1)], len(made), math.MaxInt)
		same(t, base, d+d[r.Intn(len(d)):], len(made), math.MaxInt)
		same(t, base+"a", d, len(made))
		// And spoilt in a byte.
		b := []byte(d)
		b[r.Intn(len(b))] = byte(r.Intn(256))
		same(t, base, string(b), len(made), 1000, math.MaxInt)
		b = []byte(d)
		b[r.Intn(len(b))] ^= 1 << r.Intn(3)
		same(t, base, string(b), len(made), 1000, math.MaxInt)
	}
}

func TestP9_1ApplyAnyBytes(t *testing.T) {
	r := rand.New(rand.NewSource(3))
	for range 50000 {
		base := some(r, 4)
		b := make([]byte, r.Intn(40))
		for i := range b {
			b[i] = [...]byte{0, 0, 0, 0, 0, 1, 1, 2, 2, 3, 4, 0xff}[r.Intn(12)]
		}
		same(t, base, string(b), 5, math.MaxInt)
		same(t, base, head(len(base), r.Intn(6))+string(b), -1, 3, math.MaxInt)
	}
}

func TestP9_1Size(t *testing.T) {
	for n := range 8 {
		for _, h := range []string{head(0, 0), head(3, 5), head(-1, -1)} {
			if size, e := Size(h[:n]); size != 0 || e != api.ErrShort {
				t.Errorf("Size(%q): %d, %d", h[:n], size, e)
			}
		}
	}
	// As it is told: whatever the base is, and whatever stands behind.
	for _, n := range []uint32{0, 1, 5, 255, 256, 65535, 65536, 1<<24 + 3, 0x01020304, 1<<31 - 1, 1 << 31, 1<<32 - 1} {
		for _, base := range []uint32{0, 3, 1<<32 - 1} {
			for _, rest := range []string{"", "\x00", "\x03", "\x01", take(0, 0), tell("abc")} {
				if size, e := Size(num(base) + num(n) + rest); uint64(size) != uint64(n) || e != api.OK {
					t.Errorf("Size of %d: %d, %d", n, size, e)
				}
			}
		}
	}
}

// made: what is made is a delta of base that makes target, and has no more bytes than is promised.
func made(t *testing.T, base, target string) string {
	t.Helper()
	d := Make(base, target)
	switch most := len(target) + 13; {
	case target == base && target != "" && len(target) < 4:
		// Here the promise's two bounds, 17 and at most 13 more than target, aren't one: no more than both is asked.
		if len(d) > 17 {
			t.Fatalf("Make(%q, itself): %d bytes", base, len(d))
		}
	case target == base && target != "":
		if len(d) != 17 {
			t.Fatalf("Make(%.30q, itself): %d bytes", base, len(d))
		}
	case len(d) > most || turned(base, target) && len(d) > 32:
		t.Fatalf("Make(%.30q, %.30q), of %d and %d bytes: %d bytes", base, target, len(base), len(target), len(d))
	}
	if len(target) < 5000 {
		if s, e := worded(base, d, len(target)); s != target || e != api.OK {
			t.Fatalf("Make(%.30q, %.30q) makes by the words %.30q, %d", base, target, s, e)
		}
	}
	if s, e := Apply(base, d, len(target)); s != target || e != api.OK {
		t.Fatalf("Make(%.30q, %.30q) makes %.30q, %d", base, target, s, e)
	}
	if d != Make(base, target) {
		t.Fatalf("Make(%.30q, %.30q) is another one when it is asked again", base, target)
	}
	return d
}

// turned: target is base with one byte turned.
func turned(base, target string) bool {
	if len(base) != len(target) {
		return false
	}
	n := 0
	for i := range len(base) {
		if base[i] != target[i] {
			n++
		}
	}
	return n == 1
}

func TestP9_2MakeEmpty(t *testing.T) {
	// No step can be of no bytes, so there is none.
	for _, base := range []string{"", "a", "abc", strings.Repeat("a", 1000)} {
		if d := made(t, base, ""); d != head(len(base), 0) {
			t.Errorf("Make(%.30q, \"\"): %q", base, d)
		}
	}
}

func TestP9_2MakeAllShortTexts(t *testing.T) {
	var all []string
	for n := range 8 {
		for bits := range 1 << n {
			b := make([]byte, n)
			for i := range b {
				b[i] = byte('a' + bits>>i&1)
			}
			all = append(all, string(b))
		}
	}
	for _, base := range all {
		for _, target := range all {
			made(t, base, target)
		}
	}
}

// texts: of n bytes, of many letters and of few.
func texts(r *rand.Rand, n int) []string {
	fresh := make([]byte, n)
	r.Read(fresh)
	return []string{string(fresh), strings.Repeat("a", n), strings.Repeat("ab", n)[:n], strings.Repeat("0123456789abcdef", n/16+1)[:n], strings.Repeat("line of a text\n", n/15+1)[:n]}
}

func TestP9_2MakeItself(t *testing.T) {
	r := rand.New(rand.NewSource(4))
	for n := range 400 {
		for _, s := range texts(r, n) {
			made(t, s, s)
		}
	}
	for _, n := range []int{65535, 65536, 1 << 20, 1<<24 + 5} {
		for _, s := range texts(r, n) {
			made(t, s, s)
		}
	}
}

// turn: s with the byte at a place changed.
func turn(s string, at int, by byte) string {
	b := []byte(s)
	b[at] ^= by
	return string(b)
}

func TestP9_2MakeOneByteTurned(t *testing.T) {
	r := rand.New(rand.NewSource(5))
	for n := 1; n < 120; n++ {
		for _, s := range texts(r, n) {
			for at := range n {
				made(t, s, turn(s, at, 1))
				made(t, s, turn(s, at, 'a'^'b'))
				made(t, s, turn(s, at, byte(1+r.Intn(255))))
			}
		}
	}
	long := strings.Repeat("0123456789", 30)
	for by := 1; by < 256; by++ {
		for _, at := range []int{0, 1, 8, 9, 10, 15, 16, 150, 290, 298, 299} {
			made(t, long, turn(long, at, byte(by)))
		}
	}
	for _, n := range []int{4096, 65536, 1 << 20} {
		for _, s := range texts(r, n) {
			for _, at := range []int{0, 1, 15, 16, n / 2, n - 17, n - 2, n - 1} {
				made(t, s, turn(s, at, 1))
			}
		}
	}
}

// Of texts that have nothing in common no delta can be shorter.
func TestP9_2MakeAtMostThirteenMore(t *testing.T) {
	for n := range 300 {
		for _, m := range []int{0, 1, 7, 8, 16, 17, 300} {
			if d := made(t, strings.Repeat("a", m), strings.Repeat("b", n)); n > 0 && len(d) != n+13 {
				t.Errorf("nothing of %d bytes makes %d: %d bytes", m, n, len(d))
			}
		}
	}
	r := rand.New(rand.NewSource(6))
	for _, n := range []int{1000, 65536, 200000} {
		for _, base := range texts(r, n) {
			for _, target := range texts(r, n+n/3) {
				made(t, base, target)
				made(t, target, base)
			}
		}
	}
}

// change: s with a part of it left out, told twice, moved, turned, or with other bytes within.
func change(r *rand.Rand, s string) string {
	at := r.Intn(len(s) + 1)
	n := r.Intn(1 + min(len(s)-at, 1+r.Intn(200)))
	head, part, tail := s[:at], s[at:at+n], s[at+n:]
	switch r.Intn(5) {
	case 0:
		return head + tail
	case 1:
		return head + part + part + tail
	case 2:
		to := r.Intn(len(tail) + 1)
		return head + tail[:to] + part + tail[to:]
	case 3:
		if n == 0 {
			return s
		}
		return turn(s, at, byte(1+r.Intn(255)))
	}
	return head + some(r, 40) + tail
}

// Parts that both have, of every length and at every place, with more or fewer bytes between them.
func TestP9_2MakeParts(t *testing.T) {
	r := rand.New(rand.NewSource(7))
	fresh := texts(r, 400)[0]
	for n := range 80 {
		for at := range 40 {
			part := fresh[at : at+n]
			made(t, fresh, part)
			made(t, fresh, "<"+part+">")
			made(t, fresh, part+">"+part)
			made(t, fresh, "<"+fresh[200+at:200+at+n]+part)
			made(t, fresh, fresh[:n]+"-"+fresh[400-at:])
			made(t, part, fresh)
			made(t, "<"+part, part+part+part)
		}
	}
}

func TestP9_3MakeApply(t *testing.T) {
	r := rand.New(rand.NewSource(8))
	for range 400 {
		for _, base := range texts(r, r.Intn(1500)) {
			target := base
			for range 1 + r.Intn(6) {
				target = change(r, target)
			}
			d := made(t, base, target)
			applies(t, base, d, target)
			// Of another base it isn't.
			fails(t, base+"a", d, math.MaxInt, api.ErrStale)
			if base != "" {
				fails(t, base[1:], d, math.MaxInt, api.ErrStale)
			}
			// A delta is a text like others.
			made(t, base, d)
			made(t, d, target)
		}
	}
	for range 4000 {
		base, target := some(r, 60), some(r, 60)
		applies(t, base, made(t, base, target), target)
	}
}

func TestP9_3MakeApplyLong(t *testing.T) {
	r := rand.New(rand.NewSource(9))
	for range 20 {
		for _, base := range texts(r, 65536+r.Intn(70000)) {
			target := base
			for range 1 + r.Intn(20) {
				target = change(r, target)
			}
			applies(t, base, made(t, base, target), target)
			applies(t, target, made(t, target, base), base)
		}
	}
}

// Any bytes: Apply answers as the words say, and what was made is applied.
func FuzzDelta(f *testing.F) {
	f.Add("ab", "abab", "\x00\x00\x00\x02\x00\x00\x00\x04"+take(0, 2)+take(0, 2), 4)
	f.Add("", "", "", 0)
	f.Add("abc", "", head(3, 2)+tell("x")+take(2, 1), -1)
	f.Add(strings.Repeat("0123456789", 20), strings.Repeat("0123456789", 9)+"x"+strings.Repeat("0123456789", 9), "\x03", 1000)
	f.Fuzz(func(t *testing.T, base, target, d string, most int) {
		same(t, base, d, most, most%100, math.MaxInt)
		same(t, base, num(uint32(len(base)))+d, most, most%100, math.MaxInt)
		same(t, base, head(len(base), most&15)+d, most, most%100, math.MaxInt)
		applies(t, base, made(t, base, target), target)
	})
}
