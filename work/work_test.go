package work

import (
	"cmp"
	"math"
	"math/rand"
	"slices"
	"strconv"
	"testing"
)

func TestP6_1Room(t *testing.T) {
	for _, c := range []struct{ room, want int }{
		{math.MinInt, 1}, {-1, 1}, {0, 1}, {1, 1}, {2, 2}, {3, 3}, {1000, 1000},
		{65535, 65535}, {65536, 65536}, {65537, 65536}, {math.MaxInt32 + 1, 65536}, {math.MaxInt, 65536},
	} {
		p := NewPipe[int](c.room)
		if p.Left() != 0 {
			t.Errorf("a new pipe of room %d has %d", c.room, p.Left())
		}
		n := 0
		for p.Send(n) {
			n++
		}
		if n != c.want || p.Left() != c.want {
			t.Errorf("room %d: took %d, left %d, not %d", c.room, n, p.Left(), c.want)
		}
		for i := range n {
			if x, ok := p.Next(); x != i || !ok {
				t.Fatalf("room %d, thing %d: %d, %v", c.room, i, x, ok)
			}
		}
		if x, ok := p.Next(); x != 0 || ok || p.Left() != 0 {
			t.Errorf("room %d, behind the last one: %d, %v", c.room, x, ok)
		}
	}
}

// What a full pipe refuses plays no part; what goes makes room for one.
func TestP6_1Full(t *testing.T) {
	p := NewPipe[string](2)
	if !p.Send("a") || !p.Send("b") || p.Send("c") || p.Send("d") || p.Left() != 2 {
		t.Error("Send")
	}
	if x, ok := p.Next(); x != "a" || !ok || p.Left() != 1 {
		t.Errorf("Next: %q, %v", x, ok)
	}
	if !p.Send("e") || p.Send("f") {
		t.Error("Send where one went")
	}
	for _, want := range []string{"b", "e"} {
		if x, ok := p.Next(); x != want || !ok {
			t.Errorf("Next: %q, %v, not %q", x, ok, want)
		}
	}
	if x, ok := p.Next(); x != "" || ok {
		t.Errorf("Next of none: %q, %v", x, ok)
	}
	if !p.Send("g") || p.Left() != 1 {
		t.Error("Send where there was none")
	}
}

// A closed pipe takes nothing, whether it has room or not, and hands out what it had.
func TestP6_1Closed(t *testing.T) {
	for had := range 4 {
		p := NewPipe[int](3)
		for i := range had {
			p.Send(i + 1)
		}
		for range 3 {
			p.Close()
			if p.Send(9) || p.Left() != had {
				t.Errorf("closed with %d: left %d", had, p.Left())
			}
		}
		for i := range had {
			if x, ok := p.Next(); x != i+1 || !ok || p.Left() != had-i-1 {
				t.Errorf("closed with %d, thing %d: %d, %v", had, i, x, ok)
			}
			if p.Send(9) {
				t.Error("a closed pipe took one where one went")
			}
		}
		for range 3 {
			if x, ok := p.Next(); x != 0 || ok || p.Send(9) || p.Left() != 0 {
				t.Errorf("closed and empty: %d, %v", x, ok)
			}
		}
		p.Close()
		select {
		case <-p.things:
		default:
			t.Error("the channel isn't closed")
		}
	}
}

// A zero thing is a thing; a thing may be of any type, a great one too.
func TestP6_1AnyType(t *testing.T) {
	p := NewPipe[*int](2)
	if !p.Send(nil) || p.Left() != 1 {
		t.Error("Send of nil")
	}
	if x, ok := p.Next(); x != nil || !ok {
		t.Error("Next of nil")
	}
	f := NewPipe[func() int](1)
	f.Send(func() int { return 7 })
	if x, ok := f.Next(); !ok || x() != 7 {
		t.Error("Next of a function")
	}
	if x, ok := f.Next(); ok || x != nil {
		t.Error("Next of no function")
	}
	q := NewPipe[[70000]byte](math.MaxInt)
	var big [70000]byte
	big[69999] = 5
	q.Send(big)
	big[69999] = 6
	if x, ok := q.Next(); !ok || x[69999] != 5 {
		t.Error("Next of a great array")
	}
}

func TestP6_1AsSaid(t *testing.T) {
	r := rand.New(rand.NewSource(1))
	for run := range 300 {
		room := 1 + r.Intn(6)
		p, other := NewPipe[int](room), NewPipe[int](room)
		var l []int
		closed := false
		for step := range 80 {
			switch r.Intn(20) {
			case 0:
				if step > 40 {
					p.Close()
					closed = true
				}
			case 1, 2, 3, 4, 5, 6, 7, 8, 9:
				want := !closed && len(l) < room
				if p.Send(step) != want {
					t.Fatalf("run %d, step %d: Send is not %v", run, step, want)
				}
				if want {
					l = append(l, step)
				}
			default:
				x, ok := p.Next()
				if ok != (len(l) > 0) || ok && x != l[0] || !ok && x != 0 {
					t.Fatalf("run %d, step %d: Next is %d, %v", run, step, x, ok)
				}
				if ok {
					l = l[1:]
				}
			}
			if p.Left() != len(l) || other.Left() != 0 {
				t.Fatalf("run %d, step %d: Left is %d, not %d", run, step, p.Left(), len(l))
			}
		}
	}
}

func TestP6_2Todo(t *testing.T) {
	var l Todo[string]
	for range 2 {
		if x, ok := l.Pop(); x != "" || ok || l.Len() != 0 {
			t.Errorf("Pop of none: %q, %v", x, ok)
		}
	}
	l.Push("a")
	l.Push("")
	l.Push("a")
	for i, want := range []string{"a", "", "a"} {
		if l.Len() != 3-i {
			t.Errorf("Len: %d", l.Len())
		}
		if x, ok := l.Pop(); x != want || !ok {
			t.Errorf("Pop: %q, %v, not %q", x, ok, want)
		}
	}
	if x, ok := l.Pop(); x != "" || ok || l.Len() != 0 {
		t.Errorf("Pop behind the last one: %q, %v", x, ok)
	}
}

func TestP6_2AsSaid(t *testing.T) {
	r := rand.New(rand.NewSource(2))
	var todo Todo[int]
	var l []int
	for step := range 20000 {
		// Long runs up and down, so that it becomes large, and empty.
		if r.Intn(10) < 3+step/1000%2*4 {
			todo.Push(step)
			l = append(l, step)
		} else {
			x, ok := todo.Pop()
			if ok != (len(l) > 0) || ok && x != l[len(l)-1] || !ok && x != 0 {
				t.Fatalf("step %d: %d, %v", step, x, ok)
			}
			l = l[:max(0, len(l)-1)]
		}
		if todo.Len() != len(l) {
			t.Fatalf("step %d: Len is %d, not %d", step, todo.Len(), len(l))
		}
	}
}

// What was popped is not kept.
func TestP6_2Gone(t *testing.T) {
	var l Todo[*int]
	l.Push(new(int))
	l.Push(new(int))
	l.Pop()
	l.Pop()
	for _, x := range l.things[:2] {
		if x != nil {
			t.Error("a thing that went is still held")
		}
	}
}

func TestP6_3Seen(t *testing.T) {
	var s Seen[string]
	if s.Has("") || s.Has("a") || s.Len() != 0 || len(s.All()) != 0 {
		t.Error("a zero one isn't empty")
	}
	for _, c := range []struct {
		key string
		was bool
	}{{"b", false}, {"a", false}, {"b", true}, {"", false}, {"", true}, {"ab", false}, {"\xff", false}, {"A", false}, {"a", true}} {
		if s.Has(c.key) != c.was || s.Add(c.key) == c.was || !s.Has(c.key) {
			t.Errorf("Add(%q)", c.key)
		}
	}
	if l := s.All(); !slices.Equal(l, []string{"", "A", "a", "ab", "b", "\xff"}) || s.Len() != 6 {
		t.Errorf("All: %q, Len: %d", l, s.Len())
	}
	if s.Has("c") || s.Has("B") {
		t.Error("Has of one that isn't there")
	}
}

func TestP6_3AsSaid(t *testing.T) {
	r := rand.New(rand.NewSource(3))
	for range 50 {
		var s Seen[int]
		var l []int
		for range 200 {
			k := r.Intn(120) - 60
			at, was := slices.BinarySearch(l, k)
			if s.Has(k) != was || s.Add(k) == was {
				t.Fatalf("Add(%d) among %v", k, l)
			}
			if !was {
				l = slices.Insert(l, at, k)
			}
			if s.Len() != len(l) || !slices.Equal(s.All(), l) {
				t.Fatalf("All: %v, not %v", s.All(), l)
			}
		}
	}
}

func TestP6_3Edges(t *testing.T) {
	var s Seen[int64]
	for _, k := range []int64{math.MaxInt64, -1, math.MinInt64, 0, 1} {
		s.Add(k)
	}
	if !slices.Equal(s.All(), []int64{math.MinInt64, -1, 0, 1, math.MaxInt64}) {
		t.Error(s.All())
	}
	type tag uint8
	var u Seen[tag]
	if !u.Add(255) || !u.Add(0) || u.Add(255) || !slices.Equal(u.All(), []tag{0, 255}) {
		t.Error(u.All())
	}
}

// Each All is a list of its own, which shows what was in it then.
func TestP6_3AllIsNew(t *testing.T) {
	for _, first := range []float64{2, math.NaN()} {
		var s Seen[float64]
		s.Add(first)
		s.Add(3)
		a, b := s.All(), s.All()
		a[0], a[1] = 7, 8
		_ = append(a[:1], 9)
		s.Add(1)
		if len(b) != 2 || b[1] != 3 || b[0] == 7 || s.Has(7) || s.Has(8) || !s.Has(first) || s.Len() != 3 {
			t.Errorf("%v, %v", b, s.All())
		}
	}
	var odd Seen[float64]
	odd.Add(math.NaN())
	clear(odd.All())
	if l := odd.All(); len(l) != odd.Len() || slices.Contains(l, 0) {
		t.Error(l)
	}
}

// Zeros are one key, the first one told; those that aren't equal to themselves do no harm to others.
func TestP6_3Floats(t *testing.T) {
	var s Seen[float64]
	zero := math.Copysign(0, -1)
	if !s.Add(zero) || s.Add(0) || !s.Has(0) || s.Len() != 1 || !math.Signbit(s.All()[0]) {
		t.Error(s.All())
	}
	s.Add(math.Inf(1))
	s.Add(math.NaN())
	s.Add(math.Inf(-1))
	s.Add(math.Float64frombits(math.Float64bits(math.NaN()) + 1))
	all := slices.DeleteFunc(s.All(), func(k float64) bool { return k != k })
	if !slices.Equal(all, []float64{math.Inf(-1), 0, math.Inf(1)}) || s.Len() != len(s.All()) {
		t.Errorf("%v, %d", s.All(), s.Len())
	}
}

// edgesOf: a next of a map, and the list of those it was asked of.
func edgesOf[K cmp.Ordered](edges map[K][]K, stops ...K) (func(K) ([]K, bool), *[]K) {
	var asked []K
	return func(k K) ([]K, bool) {
		asked = append(asked, k)
		return edges[k], !slices.Contains(stops, k)
	}, &asked
}

func TestP6_4Walk(t *testing.T) {
	edges := map[int][]int{1: {2, 3}, 2: {3, 4}, 5: {5}, 6: {7, 6, 7}, 7: {6}, 10: {12, 11}, 11: {13}, 12: {14, 13}}
	for _, c := range []struct {
		first []int
		most  int
		want  []int
		ok    bool
	}{
		{nil, 0, nil, true},
		{nil, math.MinInt, nil, true},
		{[]int{}, math.MaxInt, nil, true},
		{[]int{1}, 4, []int{1, 2, 3, 4}, true},
		{[]int{1}, math.MaxInt, []int{1, 2, 3, 4}, true},
		{[]int{1}, 3, []int{1, 2, 3}, false},
		{[]int{1}, 1, []int{1}, false},
		{[]int{1}, 0, nil, false},
		{[]int{1}, -1, nil, false},
		{[]int{1}, math.MinInt, nil, false},
		{[]int{5}, 1, []int{5}, true},
		{[]int{6}, 2, []int{6, 7}, true},
		{[]int{7, 6}, 2, []int{7, 6}, true},
		{[]int{8, 8, 9, 8}, 2, []int{8, 9}, true},
		{[]int{8, 8, 9, 8}, 1, []int{8}, false},
		{[]int{3, 1, 2}, 9, []int{3, 1, 2, 4}, true},
		{[]int{4, 2, 1}, 9, []int{4, 2, 3, 1}, true},
		{[]int{10, 13}, 9, []int{10, 12, 14, 13, 11}, true},
		{[]int{10, 13}, 4, []int{10, 12, 14, 13}, false},
		{[]int{13, 10, 1}, 99, []int{13, 10, 12, 14, 11, 1, 2, 3, 4}, true},
	} {
		next, asked := edgesOf(edges)
		l, ok := Walk(c.first, c.most, next)
		if !slices.Equal(l, c.want) || ok != c.ok {
			t.Errorf("Walk(%v, %d): %v, %v, not %v, %v", c.first, c.most, l, ok, c.want, c.ok)
		}
		if !slices.Equal(*asked, l) {
			t.Errorf("Walk(%v, %d): asked of %v", c.first, c.most, *asked)
		}
	}
}

// One of which next says false is the last one told and asked of, and what next tells of it plays no part.
func TestP6_4Stops(t *testing.T) {
	edges := map[string][]string{"a": {"b", "c"}, "b": {"d"}, "c": {"e"}}
	for _, c := range []struct {
		stop string
		most int
		want []string
		ok   bool
	}{
		{"a", 9, []string{"a"}, false},
		{"b", 9, []string{"a", "b"}, false},
		{"d", 9, []string{"a", "b", "d"}, false},
		{"c", 9, []string{"a", "b", "d", "c"}, false},
		{"e", 9, []string{"a", "b", "d", "c", "e"}, false},
		{"e", 5, []string{"a", "b", "d", "c", "e"}, false},
		{"e", 4, []string{"a", "b", "d", "c"}, false},
		{"a", 0, nil, false},
		{"x", 5, []string{"a", "b", "d", "c", "e"}, true},
	} {
		next, asked := edgesOf(edges, c.stop)
		l, ok := Walk([]string{"a"}, c.most, next)
		if !slices.Equal(l, c.want) || ok != c.ok || !slices.Equal(*asked, l) {
			t.Errorf("stop at %q, most %d: %q, %v, asked of %q", c.stop, c.most, l, ok, *asked)
		}
	}
}

// said: the promise's words, one within the other.
func said(first []int, most int, next func(int) ([]int, bool)) ([]int, bool) {
	var out []int
	var come func(l []int) bool
	come = func(l []int) bool {
		for _, k := range l {
			if slices.Contains(out, k) {
				continue
			}
			if len(out) >= most {
				return false
			}
			out = append(out, k)
			more, ok := next(k)
			if !ok || !come(more) {
				return false
			}
		}
		return true
	}
	ok := come(first)
	return out, ok
}

func some(r *rand.Rand, most, below int) []int {
	l := make([]int, r.Intn(most+1))
	for i := range l {
		l[i] = r.Intn(below)
	}
	return l
}

func TestP6_4AsSaid(t *testing.T) {
	r := rand.New(rand.NewSource(4))
	for range 4000 {
		below := 1 + r.Intn(25)
		edges := map[int][]int{}
		for k := range below {
			edges[k] = some(r, 5, below)
		}
		first := some(r, 6, below)
		was := slices.Clone(first)
		most := r.Intn(2*below+2) - 1
		var stops []int
		if r.Intn(3) == 0 {
			stops = some(r, 2, below)
		}
		next, asked := edgesOf(edges, stops...)
		other, _ := edgesOf(edges, stops...)
		l, ok := Walk(first, most, next)
		want, wantOK := said(first, most, other)
		if !slices.Equal(l, want) || ok != wantOK || !slices.Equal(*asked, l) {
			t.Fatalf("Walk(%v, %d) of %v, stops %v: %v, %v, not %v, %v", first, most, edges, stops, l, ok, want, wantOK)
		}
		if !slices.Equal(first, was) {
			t.Fatal("Walk changed its list")
		}
	}
}

// A next may answer the same memory each time, and write into the list that the walk began with.
func TestP6_4NothingKept(t *testing.T) {
	edges := map[int][]int{1: {2, 3, 4}, 2: {5, 6, 7}, 3: {8, 9, 2}, 5: {4, 3, 1}}
	first := []int{1, 10, 11}
	room := make([]int, 3)
	next := func(k int) ([]int, bool) {
		clear(first)
		return room[:copy(room, edges[k])], true
	}
	l, ok := Walk(first, 99, next)
	if !slices.Equal(l, []int{1, 2, 5, 4, 3, 8, 9, 6, 7, 10, 11}) || !ok {
		t.Errorf("%v, %v", l, ok)
	}
	if !slices.Equal(first, []int{0, 0, 0}) {
		t.Error("Walk changed the list of first")
	}
}

// What next tells is not changed, its spare room neither; the answer is memory of its own.
func TestP6_4NotChanged(t *testing.T) {
	told := []int{2, 3, 77}
	first := []int{1, 88}
	next := func(k int) ([]int, bool) {
		if k == 1 {
			return told[:2], true
		}
		return nil, true
	}
	l, ok := Walk(first[:1], 99, next)
	if !slices.Equal(l, []int{1, 2, 3}) || !ok {
		t.Errorf("%v, %v", l, ok)
	}
	clear(l)
	if !slices.Equal(told, []int{2, 3, 77}) || !slices.Equal(first, []int{1, 88}) {
		t.Errorf("%v, %v", told, first)
	}
}

// Deeper than calls within one another would go, and wide.
func TestP6_4DeepAndWide(t *testing.T) {
	const n = 1 << 20
	endless := func(k int) ([]int, bool) { return []int{k - 1, k + 1}, true }
	l, ok := Walk([]int{0}, n, func(k int) ([]int, bool) {
		if k == n-1 {
			return nil, true
		}
		return []int{k, k + 1}, true
	})
	if !ok || len(l) != n || !slices.IsSorted(l) {
		t.Errorf("a chain: %d, %v", len(l), ok)
	}
	l, ok = Walk([]int{0}, 1000, endless)
	if ok || len(l) != 1000 || l[999] != -999 {
		t.Errorf("no end: %d, %v", len(l), ok)
	}
	all := make([]int, 1000)
	for i := range all {
		all[i] = i
	}
	asked := 0
	l, ok = Walk(all, len(all), func(int) ([]int, bool) {
		asked++
		return all, true
	})
	if !ok || !slices.Equal(l, all) || asked != len(all) {
		t.Errorf("each of each: %d, %v, asked %d times", len(l), ok, asked)
	}
}

// A walk within a walk has its own list.
func TestP6_4Within(t *testing.T) {
	inner := func(k int) ([]int, bool) { return []int{k / 2}, true }
	outer := func(k int) ([]int, bool) { return Walk([]int{k}, 99, inner) }
	l, ok := Walk([]int{9, 6}, 99, outer)
	if !slices.Equal(l, []int{9, 4, 2, 1, 0, 6, 3}) || !ok {
		t.Errorf("%v, %v", l, ok)
	}
}

// A key that isn't equal to itself brings a walk to no endless round; none to ask is no panic.
func TestP6_4Odd(t *testing.T) {
	asked := 0
	l, ok := Walk([]float64{1}, 5, func(k float64) ([]float64, bool) {
		asked++
		return []float64{math.NaN(), 1, 2}, true
	})
	rest := slices.DeleteFunc(slices.Clone(l), func(k float64) bool { return k != k })
	if !slices.Equal(rest, []float64{1, 2}) || !ok || asked != len(l) {
		t.Errorf("%v, %v", l, ok)
	}
	if l, ok := Walk([]int{2, 1, 2}, 9, nil); !slices.Equal(l, []int{2, 1}) || !ok {
		t.Errorf("%v, %v", l, ok)
	}
}

// Any bytes are edges: a walk answers as its words say.
func FuzzWalk(f *testing.F) {
	f.Add([]byte{1}, 4, []byte{1, 2, 1, 3, 2, 3, 2, 4}, byte(99))
	f.Add([]byte{}, 0, []byte{}, byte(0))
	f.Add([]byte{7, 7}, -1, []byte{7, 7}, byte(7))
	f.Fuzz(func(t *testing.T, first []byte, most int, pairs []byte, stop byte) {
		edges := map[int][]int{}
		for i := 0; i+1 < len(pairs); i += 2 {
			edges[int(pairs[i])] = append(edges[int(pairs[i])], int(pairs[i+1]))
		}
		var begin []int
		for _, b := range first {
			begin = append(begin, int(b))
		}
		next, asked := edgesOf(edges, int(stop))
		other, _ := edgesOf(edges, int(stop))
		l, ok := Walk(begin, most, next)
		want, wantOK := said(begin, most, other)
		if !slices.Equal(l, want) || ok != wantOK || !slices.Equal(*asked, l) {
			t.Errorf("%v, %v, not %v, %v", l, ok, want, wantOK)
		}
	})
}

// Keys of other types are walked alike.
func TestP6_4AnyKey(t *testing.T) {
	type name string
	l, ok := Walk([]name{"7"}, 99, func(k name) ([]name, bool) {
		n, err := strconv.Atoi(string(k))
		return []name{name(strconv.Itoa(n / 2)), name(strconv.Itoa(n / 3))}, err == nil
	})
	if !slices.Equal(l, []name{"7", "3", "1", "0", "2"}) || !ok {
		t.Errorf("%q, %v", l, ok)
	}
}
