package squeeze

import (
	"bytes"
	"math"
	"math/rand"
	"strings"
	"testing"

	"diptych/api"
)

// worded: the text of which s is squeezed, read byte by byte as the chapter's words say it; what is told is counted ahead of being told.
func worded(s string, most int) (string, api.Errno) {
	if len(s) == 0 {
		return "", api.ErrShort
	}
	if s[0] > 1 {
		return "", api.ErrForm
	}
	if most < 0 {
		most = 0
	}
	if s[0] == 0 {
		if len(s)-1 > most {
			return "", api.ErrLimit
		}
		return s[1:], api.OK
	}
	told := ""
	for i := 1; i < len(s); {
		c := int(s[i])
		if c < 128 && i+1+c+1 > len(s) || c >= 128 && i+3 > len(s) {
			return "", api.ErrShort
		}
		if c < 128 {
			if len(told)+c+1 > most {
				return "", api.ErrLimit
			}
			told += s[i+1 : i+1+c+1]
			i += 1 + c + 1
			continue
		}
		distance := 256*int(s[i+1]) + int(s[i+2])
		if distance < 1 || distance > len(told) {
			return "", api.ErrForm
		}
		if len(told)+c-124 > most {
			return "", api.ErrLimit
		}
		// The bytes told again are the last ones, over and over.
		tail := told[len(told)-distance:]
		told += strings.Repeat(tail, 131/distance+1)[:c-124]
		i += 3
	}
	return told, api.OK
}

// as: bytes told as they are, as a token.
func as(s string) string { return string([]byte{byte(len(s) - 1)}) + s }

// back: n bytes told again from a distance, as a token.
func back(n, distance int) string {
	return string([]byte{byte(n + 124), byte(distance >> 8), byte(distance)})
}

// opens: s opens to want with just so much room and with more, and with a byte less it doesn't.
func opens(t *testing.T, s, want string) {
	t.Helper()
	for _, most := range []int{len(want), len(want) + 1, 1 << 20, math.MaxInt} {
		if x, e := Open(s, most); x != want || e != api.OK {
			t.Errorf("Open(%.40q, %d): %.40q, %d", s, most, x, e)
		}
	}
	if want == "" {
		return
	}
	for _, most := range []int{len(want) - 1, 0, -1, math.MinInt} {
		if x, e := Open(s, most); x != "" || e != api.ErrLimit {
			t.Errorf("Open(%.40q, %d): %.40q, %d", s, most, x, e)
		}
	}
}

// fails: s doesn't open, and the error is the one that is wanted.
func fails(t *testing.T, s string, most int, want api.Errno) {
	t.Helper()
	if x, e := Open(s, most); x != "" || e != want {
		t.Errorf("Open(%.40q, %d): %.40q, %d, not %d", s, most, x, e, want)
	}
}

func TestP8_1OpenExamples(t *testing.T) {
	opens(t, "\x00\x61\x62", "ab")
	opens(t, "\x01\x00\x61\x82\x00\x01", "aaaaaaa")
}

func TestP8_1OpenAsItIs(t *testing.T) {
	for _, s := range []string{"", "a", "\x00", "\x01", "\x01\x00a", "\x01\x80\x00\x00", "\xff", strings.Repeat("\x80", 70000)} {
		opens(t, "\x00"+s, s)
	}
}

func TestP8_1OpenNoTokens(t *testing.T) {
	for _, head := range []string{"\x00", "\x01"} {
		for _, most := range []int{0, 1, -1, math.MinInt, math.MaxInt} {
			if x, e := Open(head, most); x != "" || e != api.OK {
				t.Errorf("Open(%q, %d): %q, %d", head, most, x, e)
			}
		}
	}
}

// Each first byte of a token tells as many bytes as the words say.
func TestP8_1OpenEachToken(t *testing.T) {
	text := make([]byte, 200)
	for i := range text {
		text[i] = byte(i)
	}
	all := string(text)
	for n := 1; n <= 128; n++ {
		opens(t, "\x01"+string([]byte{byte(n - 1)})+all[:n], all[:n])
		opens(t, "\x01"+as(all[:n])+as(all[n:n+3]), all[:n+3])
	}
	head := "\x01" + as(all[:100]) + as(all[100:])
	for c := 128; c < 256; c++ {
		n := c - 124
		opens(t, head+string([]byte{byte(c), 0, 200}), all+all[:n])
		opens(t, head+string([]byte{byte(c), 0, 150}), all+all[50:50+n])
		opens(t, head+string([]byte{byte(c), 0, 1}), all+strings.Repeat(all[199:], n))
		opens(t, head+string([]byte{byte(c), 0, 3})+as("end"), all+strings.Repeat(all[197:], 50)[:n]+"end")
	}
}

// Distances of two bytes, the highest first, and none farther than what was told.
func TestP8_1OpenEachDistance(t *testing.T) {
	r := rand.New(rand.NewSource(1))
	b := make([]byte, 65535)
	r.Read(b)
	all := string(b)
	head := "\x01"
	for rest := all; rest != ""; {
		n := min(len(rest), 128)
		head, rest = head+as(rest[:n]), rest[n:]
	}
	for _, d := range []int{1, 2, 127, 128, 255, 256, 257, 511, 512, 4660, 32767, 32768, 65279, 65280, 65534, 65535} {
		at := len(all) - d
		opens(t, head+back(4, d), all+strings.Repeat(all[at:], 4)[:4])
	}
	for _, n := range []int{1, 2, 128, 255, 256, 257, 1000} {
		head := "\x01"
		for rest := all[:n]; rest != ""; {
			k := min(len(rest), 128)
			head, rest = head+as(rest[:k]), rest[k:]
		}
		opens(t, head+back(131, n), all[:n]+strings.Repeat(all[:n], 131)[:131])
		fails(t, head+back(4, n+1), math.MaxInt, api.ErrForm)
		fails(t, head+back(4, 65535), math.MaxInt, api.ErrForm)
		fails(t, head+back(4, 0), math.MaxInt, api.ErrForm)
	}
}

func TestP8_1OpenShort(t *testing.T) {
	for _, most := range []int{math.MinInt, -1, 0, 1, 1000, math.MaxInt} {
		fails(t, "", most, api.ErrShort)
		fails(t, "\x01\x00", most, api.ErrShort)
		fails(t, "\x01\x7f", most, api.ErrShort)
		fails(t, "\x01\x01a", most, api.ErrShort)
		fails(t, "\x01\x7f"+strings.Repeat("a", 127), most, api.ErrShort)
		for _, c := range []string{"\x80", "\x81", "\xff"} {
			fails(t, "\x01"+c, most, api.ErrShort)
			fails(t, "\x01"+c+"\x00", most, api.ErrShort)
			fails(t, "\x01"+c+"\xff", most, api.ErrShort)
		}
	}
	fails(t, "\x01\x00a\x80\x00", 1, api.ErrShort)
	fails(t, "\x01\x00a\x00", 1, api.ErrShort)
}

func TestP8_1OpenFirstByte(t *testing.T) {
	for c := 2; c < 256; c++ {
		for _, rest := range []string{"", "a", "\x00a", "\x00a\x80\x00\x01", "\x80"} {
			for _, most := range []int{-1, 0, 1000} {
				fails(t, string([]byte{byte(c)})+rest, most, api.ErrForm)
			}
		}
	}
}

// Within a token ErrShort, ErrForm, ErrLimit; and a token ahead of the others.
func TestP8_1OpenOrder(t *testing.T) {
	for _, c := range []struct {
		s    string
		most int
		want api.Errno
	}{
		{"\x01\x80\x00\x01", 0, api.ErrForm},                   // nothing was told
		{"\x01\x80\x00\x00", 0, api.ErrForm},                   // and a distance of 0
		{"\x01\x00a\x80\x00\x02", 1, api.ErrForm},              // ahead of the limit
		{"\x01\x00a\x80\x00\x00", 1, api.ErrForm},              //
		{"\x01\x00a\x80\x01\x00", 1, api.ErrForm},              //
		{"\x01\x00a\x80\x00", 4, api.ErrShort},                 // ahead of the distance
		{"\x01\x05abc", 2, api.ErrShort},                       // ahead of the limit
		{"\x01\x00a\x80\x00\x01", 4, api.ErrLimit},             //
		{"\x01\x00a\x80\x00\x01\x00", 4, api.ErrLimit},         // the second token ahead of the third
		{"\x01\x00a\x80\x00\x01\x80\x00\x09", 4, api.ErrLimit}, //
		{"\x01\x00a\x80\x00\x01\x00", 5, api.ErrShort},         //
		{"\x01\x00a\x80\x00\x01\x80\x00\x06", 5, api.ErrForm},  //
		{"\x01\x00a\x80\x00\x01\x80\x00\x05", 5, api.ErrLimit},
		{"\x01\x02abc\x80\x00\x04\x01", 100, api.ErrForm},
		{"\x01\x02abc\x80\x00\x00\x01", 2, api.ErrLimit},
		{"\x01\x02abc\x01", 2, api.ErrLimit},
		{"\x00abc", 2, api.ErrLimit},
	} {
		fails(t, c.s, c.most, c.want)
		if x, e := worded(c.s, c.most); x != "" || e != c.want {
			t.Errorf("by the words %q, %d: %q, %d", c.s, c.most, x, e)
		}
	}
}

// tokens: a squeezed text of n tokens that opens, of bytes that are few enough to be like each other.
func tokens(r *rand.Rand, n int) string {
	out, told := []byte{1}, 0
	for range n {
		if told == 0 || r.Intn(2) == 0 {
			k := 1 + r.Intn(1+r.Intn(128))
			out = append(out, byte(k-1))
			for range k {
				out = append(out, byte('a'+r.Intn(4)))
			}
			told += k
			continue
		}
		c := 128 + r.Intn(128)
		out = append(out, []byte(back(c-124, 1+r.Intn(told)))...)
		told += c - 124
	}
	return string(out)
}

// same: Open answers as the words say, whatever room there is.
func same(t *testing.T, s string, mosts ...int) {
	t.Helper()
	for _, most := range mosts {
		want, wantErr := worded(s, most)
		if x, e := Open(s, most); x != want || e != wantErr {
			t.Fatalf("Open(%q, %d): %q, %d, not %q, %d", s, most, x, e, want, wantErr)
		}
	}
}

func TestP8_1OpenTokens(t *testing.T) {
	r := rand.New(rand.NewSource(2))
	for range 1000 {
		s := tokens(r, r.Intn(12))
		text, e := worded(s, 1<<20)
		if e != api.OK {
			t.Fatalf("%q: %d", s, e)
		}
		same(t, s, -1, 0, 1, len(text)-1, len(text), len(text)+1, r.Intn(len(text)+1), math.MaxInt)
		// Cut off anywhere.
		cut := s[:r.Intn(len(s)+1)]
		same(t, cut, r.Intn(len(text)+1), 1<<20)
		// And spoilt in a byte.
		b := []byte(s)
		b[r.Intn(len(b))] = byte(r.Intn(256))
		same(t, string(b), r.Intn(len(text)+1), 1<<20)
	}
}

func TestP8_1OpenAnyBytes(t *testing.T) {
	r := rand.New(rand.NewSource(3))
	for range 20000 {
		b := make([]byte, r.Intn(30))
		for i := range b {
			b[i] = [...]byte{0, 1, 2, 3, 4, 5, 9, 0x7f, 0x80, 0x81, 0x90, 0xff}[r.Intn(12)]
		}
		if len(b) > 0 && r.Intn(10) > 0 {
			b[0] = 1
		}
		same(t, string(b), -1, 0, 1, 5, r.Intn(300), 1<<20)
	}
}

// pressed: what was pressed is at most a byte longer than s, and opens to it, here and by the words.
func pressed(t *testing.T, s string) string {
	t.Helper()
	p := Press(s)
	if len(p) > len(s)+1 {
		t.Fatalf("Press(%.40q): %d bytes of %d", s, len(p), len(s))
	}
	if x, e := Open(p, len(s)); x != s || e != api.OK {
		t.Fatalf("Press(%.40q) opens to %.40q, %d", s, x, e)
	}
	if len(s) < 5000 {
		if x, e := worded(p, len(s)); x != s || e != api.OK {
			t.Fatalf("Press(%.40q) is by the words %.40q, %d", s, x, e)
		}
	}
	if s != "" {
		fails(t, p, len(s)-1, api.ErrLimit)
	}
	if Press(s) != p {
		t.Fatalf("Press(%.40q) is another one when it is asked again", s)
	}
	return p
}

func TestP8_2PressShortTexts(t *testing.T) {
	pressed(t, "")
	for a := range 256 {
		pressed(t, string([]byte{byte(a)}))
	}
	// All texts of two letters, of up to 12 of them.
	for n := range 13 {
		for bits := range 1 << n {
			b := make([]byte, n)
			for i := range b {
				b[i] = byte('a' + bits>>i&1)
			}
			pressed(t, string(b))
		}
	}
}

// Of bytes that don't repeat nothing can be shorter: they are a byte longer, however many they are.
func TestP8_2PressAtMostOneMore(t *testing.T) {
	r := rand.New(rand.NewSource(4))
	for n := range 600 {
		b := make([]byte, n)
		for i := range b {
			b[i] = byte(i) ^ byte(i>>8)
		}
		pressed(t, string(b))
		r.Read(b)
		if p := pressed(t, string(b)); n < 200 && len(p) != n+1 {
			t.Errorf("%d bytes that don't repeat: %d", n, len(p))
		}
	}
	for _, n := range []int{65534, 65535, 65536, 65537, 200000} {
		b := make([]byte, n)
		r.Read(b)
		pressed(t, string(b))
	}
}

// Four bytes told again between others save nothing.
func TestP8_2PressHardTexts(t *testing.T) {
	r := rand.New(rand.NewSource(5))
	for range 300 {
		var b []byte
		for len(b) < 2000 {
			b = append(b, byte(r.Intn(256)))
			if len(b) > 8 && r.Intn(3) == 0 {
				at := r.Intn(len(b) - 4)
				b = append(b, b[at:at+4]...)
			}
		}
		pressed(t, string(b))
	}
}

// Where bytes repeat, they are shorter.
func TestP8_2PressShorter(t *testing.T) {
	for _, c := range []struct {
		s    string
		most int
	}{
		{"aaaaaaa", 6},
		{strings.Repeat("a", 132), 6},
		{strings.Repeat("a", 133), 9},
		{strings.Repeat("abcd", 100), 20},
		{strings.Repeat("x", 70000), 1620},
		{"abcdefghijklmnop abcdefghijklmnop", 22},
		{strings.Repeat("line of a text\n", 1000), 380},
	} {
		if p := pressed(t, c.s); len(p) > c.most {
			t.Errorf("Press(%.20q), of %d bytes: %d, more than %d", c.s, len(c.s), len(p), c.most)
		}
	}
}

// Bytes that stood as far ahead as a distance reaches, and farther.
func TestP8_2PressFar(t *testing.T) {
	r := rand.New(rand.NewSource(6))
	b := make([]byte, 70000)
	r.Read(b)
	part := string(b[:1000])
	for _, far := range []int{65533, 65534, 65535, 65536, 65537, 65635, 66000} {
		s := part + string(b[1000:far]) + part
		p := pressed(t, s)
		if shorter := len(p) < len(s); shorter != (far <= 65535) {
			t.Errorf("1000 bytes told again at %d: %d bytes of %d", far, len(p), len(s))
		}
		pressed(t, s+part+s)
	}
	zeros := strings.Repeat("\x00", 66000)
	pressed(t, part+zeros+part+zeros+part)
}

// Runs of each length, of bytes that are told as they are and of such as are told again.
func TestP8_2PressRuns(t *testing.T) {
	r := rand.New(rand.NewSource(7))
	b := make([]byte, 400)
	r.Read(b)
	for n := range 300 {
		fresh := string(b[:n])
		pressed(t, fresh+strings.Repeat("a", 50)+fresh)
		pressed(t, strings.Repeat("a", n)+"b"+strings.Repeat("a", n))
		pressed(t, "x"+strings.Repeat("abc", n)+fresh)
		pressed(t, fresh+fresh)
	}
}

func TestP8_3PressOpen(t *testing.T) {
	r := rand.New(rand.NewSource(8))
	for range 1500 {
		text, e := worded(tokens(r, r.Intn(30)), 1<<20)
		if e != api.OK {
			t.Fatal(e)
		}
		p := pressed(t, text)
		// What is squeezed is a text like others.
		pressed(t, p)
	}
	for _, letters := range []int{1, 2, 3, 16, 255} {
		b := make([]byte, 140000)
		for i := range b {
			b[i] = byte(r.Intn(letters))
		}
		pressed(t, string(b))
	}
}

// Any bytes: Open answers as the words say, and what is pressed is opened.
func FuzzSqueeze(f *testing.F) {
	f.Add([]byte(""), 0)
	f.Add([]byte("\x00ab"), 2)
	f.Add([]byte("\x01\x00a\x82\x00\x01"), 7)
	f.Add([]byte("\x01\x02abc\x80\x00\x03\x00"), 100)
	f.Add(bytes.Repeat([]byte("abcde"), 50), 3)
	f.Fuzz(func(t *testing.T, b []byte, most int) {
		s := string(b)
		same(t, s, most, most%1000, math.MaxInt)
		same(t, "\x01"+s, most, most%1000, math.MaxInt)
		pressed(t, s)
	})
}
