package graph

import (
	"math/rand"
	"slices"
	"strconv"
	"testing"

	"diptych/api"
	"diptych/edges"
)

// source: objects by their names.
type source map[string]api.Object

func (s source) get(id string) (api.Object, api.Errno) {
	if o, ok := s[id]; ok {
		return o, api.OK
	}
	return api.Object{Kind: api.Commit}, api.ErrNone // what stands beside an error is no object
}

// counted: a source, and how often each name was asked for.
func (s source) counted() (Get, map[string]int) {
	asked := map[string]int{}
	return func(id string) (api.Object, api.Errno) {
		asked[id]++
		return s.get(id)
	}, asked
}

func blob() api.Object { return api.Object{Kind: api.Blob} }

// tree: of pairs of a mode and a name: "1b3t".
func tree(pairs string) api.Object {
	o := api.Object{Kind: api.Tree}
	for i := 0; i < len(pairs); i += 2 {
		o.Entries = append(o.Entries, api.Entry{Mode: int(pairs[i] - '0'), Name: strconv.Itoa(i), Id: pairs[i+1 : i+2]})
	}
	return o
}

func commit(tree string, parents ...string) api.Object {
	return api.Object{Kind: api.Commit, Tree: tree, Parents: parents}
}

func tag(target string, of int) api.Object {
	return api.Object{Kind: api.Tag, Target: target, Of: of}
}

// world: commits 1 behind 2 and 3, these behind 4 and 5; tags g and h; r and s hang on each other; x, y and z are spoilt.
func world() source {
	return source{"b": blob(), "c": blob(), "e": tree(""), "t": tree("1b"), "u": tree("3t2c1b"),
		"1": commit("t"), "2": commit("u", "1"), "3": commit("e", "1"), "4": commit("u", "2", "3"), "5": commit("t", "3", "2"),
		"g": tag("4", api.Commit), "h": tag("g", api.Tag), "k": tag("b", api.Blob), "l": tag("u", api.Tree),
		"r": commit("t", "s"), "s": commit("t", "r"), "o": tag("o", api.Tag), "p": tree("3p"),
		"x": commit("missing"), "y": commit("b"), "z": commit("t", "g"), "w": tag("1", api.Blob), "0": {}, "7": {Kind: 7}}
}

// to: an edge to each letter, of a kind.
func to(kind int, names string) []edges.Edge {
	var out []edges.Edge
	for _, r := range names {
		out = append(out, edges.Edge{Id: string(r), Kind: kind})
	}
	return out
}

// letters: names of one letter each.
func letters(s string) []string {
	var out []string
	for _, x := range to(0, s) {
		out = append(out, x.Id)
	}
	return out
}

func ids(l []edges.Edge) []string {
	var out []string
	for _, x := range l {
		out = append(out, x.Id)
	}
	return out
}

func in(names string) map[string]bool {
	out := map[string]bool{}
	for _, id := range letters(names) {
		out[id] = true
	}
	return out
}

// plainLook: by the chapter's words.
func plainLook(s source, x edges.Edge) (api.Object, api.Errno) {
	o, ok := s[x.Id]
	if !ok {
		return api.Object{}, api.ErrMissing
	}
	if x.Kind != 0 && x.Kind != o.Kind {
		return api.Object{}, api.ErrKind
	}
	return o, api.OK
}

// plainWalk: by recursion, one edge behind another.
func plainWalk(s source, first []edges.Edge, stop map[string]bool, next func(api.Object) []edges.Edge) ([]edges.Edge, api.Errno) {
	var out []edges.Edge
	there := map[string]bool{}
	var visit func(l []edges.Edge) api.Errno
	visit = func(l []edges.Edge) api.Errno {
		for _, x := range l {
			if stop[x.Id] || there[x.Id] {
				continue
			}
			if len(out) == 4096 {
				return api.ErrLimit
			}
			o, e := plainLook(s, x)
			if e != api.OK {
				return e
			}
			there[x.Id] = true
			out = append(out, x)
			if e := visit(next(o)); e != api.OK {
				return e
			}
		}
		return api.OK
	}
	if e := visit(first); e != api.OK {
		return nil, e
	}
	return out, api.OK
}

func plainClosure(s source, first []edges.Edge, stop map[string]bool) ([]edges.Edge, api.Errno) {
	return plainWalk(s, first, stop, edges.Of)
}

func commits(l []string) []edges.Edge {
	var out []edges.Edge
	for _, id := range l {
		out = append(out, edges.Edge{Id: id, Kind: api.Commit})
	}
	return out
}

func plainLog(s source, l []string) ([]string, api.Errno) {
	out, e := plainWalk(s, commits(l), nil, func(o api.Object) []edges.Edge { return commits(o.Parents) })
	return ids(out), e
}

// plainBases: each shared commit is asked whether one of the shared ones' Parents comes to it.
func plainBases(s source, a, b string) ([]string, api.Errno) {
	l, e := plainLog(s, []string{a})
	if e != api.OK {
		return nil, e
	}
	m, e := plainLog(s, []string{b})
	if e != api.OK {
		return nil, e
	}
	var shared, out []string
	for _, id := range l {
		if slices.Contains(m, id) {
			shared = append(shared, id)
		}
	}
	for _, id := range shared {
		free := true
		for _, y := range shared {
			below, _ := plainLog(s, s[y].Parents)
			free = free && !slices.Contains(below, id)
		}
		if free {
			out = append(out, id)
		}
	}
	slices.Sort(out)
	return out, api.OK
}

// plainPeel: a name with so many tags ahead of it.
func plainPeel(s source, id string, tags int) (string, api.Errno) {
	o, ok := s[id]
	switch {
	case !ok:
		return "", api.ErrMissing
	case o.Kind == api.Commit:
		return id, api.OK
	case o.Kind != api.Tag:
		return "", api.ErrKind
	case tags == 8:
		return "", api.ErrLimit
	}
	return plainPeel(s, o.Target, tags+1)
}

// ringed: does one of the names come to itself, stop aside?
func ringed(s source, l []edges.Edge, stop map[string]bool) bool {
	below := map[string][]string{}
	for _, x := range l {
		for _, id := range edges.Names(s[x.Id]) {
			if !stop[id] {
				below[x.Id] = append(below[x.Id], id)
			}
		}
	}
	// Those whose names are all gone go, as long as there are such.
	for gone := true; gone; {
		gone = false
		for _, x := range l {
			left, ok := below[x.Id]
			if ok && !slices.ContainsFunc(left, func(id string) bool { return below[id] != nil }) {
				delete(below, x.Id)
				gone = true
			}
		}
	}
	return len(below) > 0
}

// byName: edges, sorted.
func byName(l []edges.Edge) []edges.Edge {
	l = slices.Clone(l)
	slices.SortFunc(l, func(a, b edges.Edge) int {
		if a.Id < b.Id {
			return -1
		}
		return 1
	})
	return l
}

// checkWalks: Closure and Order of the same things, against the words.
func checkWalks(t *testing.T, s source, first []edges.Edge, stop map[string]bool) {
	t.Helper()
	want, e := plainClosure(s, first, stop)
	l, f := Closure(s.get, first, stop)
	if f != e || !slices.Equal(l, want) {
		t.Error(s, first, stop, "Closure", l, f, "not", want, e)
	}
	o, f := Order(s.get, first, stop)
	if e == api.OK && ringed(s, want, stop) {
		e = api.ErrState
	}
	if e != api.OK {
		if f != e || len(o) != 0 {
			t.Error(s, first, stop, "Order", o, f, e)
		}
		return
	}
	if f != api.OK || !slices.Equal(byName(o), byName(want)) {
		t.Error(s, first, stop, "Order", o, f, "not of", want)
	}
	there := map[string]bool{}
	for _, x := range o {
		for _, id := range edges.Names(s[x.Id]) {
			if !stop[id] && !there[id] {
				t.Error(s, first, stop, "Order", o, id, "is named ahead of its being there")
			}
		}
		there[x.Id] = true
	}
}

func TestP13_1Closure(t *testing.T) {
	for i, x := range []struct {
		first []edges.Edge
		stop  string
		want  []edges.Edge
	}{
		{nil, "", nil},
		{to(api.Blob, "b"), "", to(api.Blob, "b")},
		{to(0, "b"), "", to(0, "b")},
		{to(api.Tree, "u"), "", []edges.Edge{{Id: "u", Kind: 2}, {Id: "t", Kind: 2}, {Id: "b", Kind: 1}, {Id: "c", Kind: 1}}},
		{to(api.Commit, "3"), "", []edges.Edge{{Id: "3", Kind: 3}, {Id: "e", Kind: 2}, {Id: "1", Kind: 3}, {Id: "t", Kind: 2}, {Id: "b", Kind: 1}}},
		{to(api.Tag, "k"), "", []edges.Edge{{Id: "k", Kind: 4}, {Id: "b", Kind: 1}}},
		{to(api.Tag, "l"), "tc", []edges.Edge{{Id: "l", Kind: 4}, {Id: "u", Kind: 2}, {Id: "b", Kind: 1}}},
		{to(0, "07"), "", to(0, "07")},
		{to(7, "7"), "", to(7, "7")},
		{to(api.Commit, "4"), "4", nil},
		{to(api.Commit, "412"), "1", []edges.Edge{{Id: "4", Kind: 3}, {Id: "u", Kind: 2}, {Id: "t", Kind: 2}, {Id: "b", Kind: 1}, {Id: "c", Kind: 1}, {Id: "2", Kind: 3}, {Id: "3", Kind: 3}, {Id: "e", Kind: 2}}},
		{to(0, "p"), "", to(0, "p")},
		{to(0, "rs"), "tb", []edges.Edge{{Id: "r"}, {Id: "s", Kind: 3}}},
	} {
		l, e := Closure(world().get, x.first, in(x.stop))
		if e != api.OK || !slices.Equal(l, x.want) {
			t.Error(i, l, e, x.want)
		}
		checkWalks(t, world(), x.first, in(x.stop))
	}
}

func TestP13_1ByWhichEdge(t *testing.T) {
	// Of those that name it in one list the first one comes to it.
	l, e := Closure(world().get, []edges.Edge{{Id: "b"}, {Id: "b", Kind: api.Blob}, {Id: "b", Kind: api.Tree}}, nil)
	if e != api.OK || !slices.Equal(l, to(0, "b")) {
		t.Error(l, e)
	}
	if l, e = Closure(world().get, []edges.Edge{{Id: "b", Kind: api.Tree}, {Id: "b"}}, nil); e != api.ErrKind {
		t.Error(l, e)
	}
	// What an object names is come to from there, ahead of the rest of first.
	l, e = Closure(world().get, []edges.Edge{{Id: "t"}, {Id: "b"}}, nil)
	if e != api.OK || !slices.Equal(l, []edges.Edge{{Id: "t"}, {Id: "b", Kind: api.Blob}}) {
		t.Error(l, e)
	}
	l, e = Closure(world().get, []edges.Edge{{Id: "t"}, {Id: "b", Kind: api.Commit}}, nil)
	if e != api.OK || len(l) != 2 {
		t.Error(l, e, "the second edge to b comes to nothing any more")
	}
	l, e = Closure(world().get, []edges.Edge{{Id: "b"}, {Id: "t"}}, nil)
	if e != api.OK || !slices.Equal(l, to(0, "bt")) {
		t.Error(l, e)
	}
	// An edge to oneself comes too late.
	s := source{"a": tag("a", api.Blob)}
	if l, e = Closure(s.get, to(api.Tag, "a"), nil); e != api.OK || !slices.Equal(l, to(api.Tag, "a")) {
		t.Error(l, e)
	}
	if l, e = Closure(s.get, to(0, "aa"), nil); e != api.OK || !slices.Equal(l, to(0, "a")) {
		t.Error(l, e)
	}
}

func TestP13_1Errors(t *testing.T) {
	for i, x := range []struct {
		first []edges.Edge
		stop  string
		want  api.Errno
	}{
		{to(0, "?"), "", api.ErrMissing},
		{to(api.Commit, "?"), "", api.ErrMissing},
		{to(0, "?"), "?", api.OK},
		{to(api.Tree, "4"), "", api.ErrKind},
		{to(api.Tree, "4"), "4", api.OK},
		{to(api.Blob, "0"), "", api.ErrKind},
		{to(-1, "b"), "", api.ErrKind},
		{to(256+1, "b"), "", api.ErrKind},
		{to(0, "x"), "", api.ErrMissing},
		{to(0, "y"), "", api.ErrKind},
		{to(0, "y"), "b", api.OK},
		{to(0, "z"), "", api.ErrKind},
		{to(0, "w"), "", api.ErrKind},
		{to(0, "xy"), "", api.ErrMissing},
		{to(0, "yx"), "", api.ErrKind},
		{to(0, "4z?"), "", api.ErrKind},
		{to(0, "4y"), "", api.OK}, // b was come to ahead of y
		{to(0, "4?z"), "", api.ErrMissing},
	} {
		l, e := Closure(world().get, x.first, in(x.stop))
		if e != x.want || e != api.OK && len(l) != 0 {
			t.Error(i, l, e)
		}
		checkWalks(t, world(), x.first, in(x.stop))
	}
	// Whatever error a source answers, and whatever beside it.
	for e := api.Errno(-1); e <= api.ErrDirty+1; e++ {
		get := func(id string) (api.Object, api.Errno) { return blob(), e }
		want := api.ErrMissing
		if e == api.OK {
			want = api.OK
		}
		if l, f := Closure(get, to(api.Blob, "b"), nil); f != want || (f == api.OK) != (len(l) == 1) {
			t.Error(e, l, f)
		}
	}
}

func TestP13_1Stop(t *testing.T) {
	get, asked := world().counted()
	if l, e := Closure(get, to(0, "452"), in("u1")); e != api.OK || !slices.Equal(ids(l), letters("423e5tb")) {
		t.Error(l, e)
	}
	for id, n := range asked {
		if n != 1 || id == "u" || id == "1" {
			t.Error(id, n)
		}
	}
	// A false in stop is as good as none.
	if l, e := Closure(world().get, to(0, "t"), map[string]bool{"b": false}); e != api.OK || len(l) != 2 {
		t.Error(l, e)
	}
}

// chain: so many commits, each one the next one's parent, the last one without.
func chain(n int) source {
	s := source{"t": tree("")}
	for i := 1; i < n; i++ {
		s[strconv.Itoa(i)] = commit("t", strconv.Itoa(i+1))
	}
	s[strconv.Itoa(n)] = commit("t")
	return s
}

// many: edges to so many blobs, which are there.
func many(n int) ([]edges.Edge, source) {
	var l []edges.Edge
	s := source{}
	for i := range n {
		id := strconv.Itoa(i)
		s[id] = blob()
		l = append(l, edges.Edge{Id: id, Kind: api.Blob})
	}
	return l, s
}

func TestP13_1Limit(t *testing.T) {
	l, s := many(4096)
	checkWalks(t, s, append(l, l...), nil)
	if all, e := Closure(s.get, append(l, l...), nil); e != api.OK || !slices.Equal(all, l) {
		t.Error(len(all), e)
	}
	l, s = many(4097)
	for i, x := range []struct {
		spoilt int
		want   api.Errno
	}{{-1, api.ErrLimit}, {4096, api.ErrLimit}, {4095, api.ErrMissing}, {0, api.ErrMissing}} {
		delete(s, strconv.Itoa(x.spoilt))
		if all, e := Closure(s.get, l, nil); e != x.want || len(all) != 0 {
			t.Error(i, len(all), e)
		}
		checkWalks(t, s, l, nil)
	}
	// The 4097th isn't looked at.
	l, s = many(4097)
	get, asked := s.counted()
	if _, e := Closure(get, l, nil); e != api.ErrLimit || len(asked) != 4096 || asked["4096"] != 0 {
		t.Error(e, len(asked))
	}
	if all, e := Closure(s.get, l, map[string]bool{"7": true}); e != api.OK || len(all) != 4096 {
		t.Error(len(all), e)
	}
	checkWalks(t, chain(4095), []edges.Edge{{Id: "1"}}, nil)
	checkWalks(t, chain(4096), []edges.Edge{{Id: "1"}}, nil)
	if all, e := Closure(chain(4095).get, []edges.Edge{{Id: "1"}}, nil); e != api.OK || len(all) != 4096 {
		t.Error(len(all), e)
	}
	if all, e := Closure(chain(4096).get, []edges.Edge{{Id: "1"}}, nil); e != api.ErrLimit || len(all) != 0 {
		t.Error(len(all), e)
	}
}

func TestP13_2Order(t *testing.T) {
	for i, x := range []struct{ first, stop, want string }{
		{"", "", ""}, {"b", "", "b"}, {"t", "", "bt"}, {"k", "", "bk"}, {"1", "", "bt1"}, {"h", "tceu1", "324gh"}, {"u", "b", "tcu"},
	} {
		o, e := Order(world().get, to(0, x.first), in(x.stop))
		if e != api.OK || len(o) != len(x.want) {
			t.Error(i, o, e)
		}
		checkWalks(t, world(), to(0, x.first), in(x.stop))
	}
	// A tree that is named from many places, some of them ahead of those that it names.
	s := source{"a": tree("3b3c3d3d"), "b": tree("3c3d1e"), "c": tree("3d1e"), "d": tree("1e1e"), "e": blob()}
	for _, first := range []string{"a", "abcde", "edcba", "cab", "dda"} {
		o, e := Order(s.get, to(0, first), nil)
		if e != api.OK || !slices.Equal(ids(o), letters("edcba")) {
			t.Error(first, o, e)
		}
		checkWalks(t, s, to(0, first), nil)
	}
	get, asked := s.counted()
	if o, e := Order(get, to(0, "ab"), nil); e != api.OK || o[4] != (edges.Edge{Id: "a"}) || o[3] != (edges.Edge{Id: "b", Kind: api.Tree}) || len(asked) != 5 {
		t.Error(o, e, asked)
	}
}

func TestP13_2Rings(t *testing.T) {
	s := source{"a": tree("3b"), "b": tree("3c3d"), "c": tree(""), "d": tree("3e"), "e": tree("3b"), "f": tree("3a3f"), "m": tag("n", api.Tag), "n": tag("m", api.Tag)}
	for i, x := range []struct {
		first, stop string
		want        api.Errno
	}{
		{"a", "", api.ErrState}, {"b", "", api.ErrState}, {"e", "", api.ErrState}, {"ca", "", api.ErrState}, {"c", "", api.OK},
		{"a", "b", api.OK}, {"a", "d", api.OK}, {"a", "e", api.OK}, {"e", "e", api.OK}, {"f", "e", api.ErrState}, {"f", "a", api.ErrState},
		{"m", "", api.ErrState}, {"n", "m", api.OK}, {"f?", "", api.ErrMissing}, {"?f", "", api.ErrMissing}, {"?f", "f", api.ErrMissing}, {"ff", "f", api.OK},
	} {
		o, e := Order(s.get, to(0, x.first), in(x.stop))
		if e != x.want || e != api.OK && len(o) != 0 {
			t.Error(i, o, e)
		}
		checkWalks(t, s, to(0, x.first), in(x.stop))
	}
	// A ring's edge of another kind is no ring: it isn't looked at, being come to already.
	s = source{"a": commit("t", "a"), "t": tree("")}
	if o, e := Order(s.get, to(api.Commit, "a"), nil); e != api.ErrState || len(o) != 0 {
		t.Error(o, e)
	}
	long := chain(4095)
	long["4095"] = commit("t", "1")
	checkWalks(t, long, []edges.Edge{{Id: "1"}}, nil)
	if o, e := Order(long.get, []edges.Edge{{Id: "9"}}, nil); e != api.ErrState || len(o) != 0 {
		t.Error(len(o), e)
	}
}

// checkHistories: of all pairs of these names, against the words.
func checkHistories(t *testing.T, s source, names []string) {
	t.Helper()
	for _, a := range names {
		for _, b := range names {
			want, e := plainLog(s, []string{a, b})
			if l, f := Log(s.get, []string{a, b}); f != e || !slices.Equal(l, want) {
				t.Error(s, "Log", a, b, l, f, "not", want, e)
			}
			want, e = plainLog(s, []string{b})
			if is, f := Ahead(s.get, a, b); f != e || is != slices.Contains(want, a) {
				t.Error(s, "Ahead", a, b, is, f, "not", want, e)
			}
			want, e = plainBases(s, a, b)
			if l, f := Bases(s.get, a, b); f != e || !slices.Equal(l, want) {
				t.Error(s, "Bases", a, b, l, f, "not", want, e)
			}
		}
		want, e := plainPeel(s, a, 0)
		if id, f := Peel(s.get, a); f != e || id != want {
			t.Error(s, "Peel", a, id, f, "not", want, e)
		}
	}
}

func TestP13_3Log(t *testing.T) {
	for i, x := range []struct {
		first, want string
		e           api.Errno
	}{
		{"", "", api.OK}, {"1", "1", api.OK}, {"4", "4213", api.OK}, {"5", "5312", api.OK}, {"35", "3152", api.OK}, {"5335", "5312", api.OK}, {"r", "rs", api.OK}, {"sr", "sr", api.OK},
		{"x", "x", api.OK}, {"y", "y", api.OK}, {"z", "", api.ErrKind}, {"t", "", api.ErrKind}, {"g", "", api.ErrKind}, {"0", "", api.ErrKind}, {"?", "", api.ErrMissing},
		{"4?t", "", api.ErrMissing}, {"4t?", "", api.ErrKind},
	} {
		l, e := Log(world().get, letters(x.first))
		if e != x.e || !slices.Equal(l, letters(x.want)) {
			t.Error(i, l, e)
		}
	}
	get, asked := world().counted()
	if _, e := Log(get, letters("45")); e != api.OK || len(asked) != 5 || asked["1"] != 1 || asked["t"] != 0 {
		t.Error(e, asked)
	}
	for n, want := range map[int]api.Errno{4096: api.OK, 4097: api.ErrLimit} {
		s := chain(n)
		if l, e := Log(s.get, []string{"1"}); e != want || (e == api.OK) != (len(l) == n) {
			t.Error(n, len(l), e)
		}
		if is, e := Ahead(s.get, "1", "1"); e != want || is != (want == api.OK) {
			t.Error(n, is, e)
		}
		if l, e := Bases(s.get, "1", "4000"); e != want || (e == api.OK) != slices.Equal(l, []string{"4000"}) {
			t.Error(n, l, e)
		}
		if l, e := Bases(s.get, "4000", "1"); e != want || (e == api.OK) != slices.Equal(l, []string{"4000"}) {
			t.Error(n, l, e)
		}
	}
	checkHistories(t, world(), letters("12345rsxyztgb?"))
}

func TestP13_3Ahead(t *testing.T) {
	for i, x := range []struct {
		old, new string
		want     bool
		e        api.Errno
	}{
		{"1", "4", true, api.OK}, {"4", "1", false, api.OK}, {"4", "4", true, api.OK}, {"2", "3", false, api.OK}, {"r", "s", true, api.OK},
		{"?", "4", false, api.OK}, {"t", "4", false, api.OK}, {"g", "4", false, api.OK},
		{"4", "?", false, api.ErrMissing}, {"?", "?", false, api.ErrMissing}, {"t", "t", false, api.ErrKind}, {"4", "g", false, api.ErrKind}, {"z", "z", false, api.ErrKind},
	} {
		if is, e := Ahead(world().get, x.old, x.new); is != x.want || e != x.e {
			t.Error(i, is, e)
		}
	}
}

func TestP13_3Bases(t *testing.T) {
	s := world()
	// Behind 6 and 7 lie 4 and 5 both, whose bases are no bases of theirs.
	s["6"], s["7"] = commit("t", "5", "4"), commit("t", "4", "5")
	s["8"] = commit("t", "6", "1") // 1 by a short way, too
	for i, x := range []struct {
		a, b, want string
		e          api.Errno
	}{
		{"1", "4", "1", api.OK}, {"4", "5", "23", api.OK}, {"5", "4", "23", api.OK}, {"4", "4", "4", api.OK}, {"6", "7", "45", api.OK}, {"7", "8", "45", api.OK}, {"8", "1", "1", api.OK},
		{"4", "x", "", api.OK}, {"r", "s", "", api.OK}, {"r", "r", "", api.OK}, {"4", "r", "", api.OK},
		{"4", "?", "", api.ErrMissing}, {"?", "4", "", api.ErrMissing}, {"4", "t", "", api.ErrKind}, {"t", "4", "", api.ErrKind}, {"t", "?", "", api.ErrKind}, {"?", "t", "", api.ErrMissing},
	} {
		l, e := Bases(s.get, x.a, x.b)
		if e != x.e || !slices.Equal(l, letters(x.want)) {
			t.Error(i, l, e)
		}
	}
	checkHistories(t, s, letters("12345678rsx?"))
	// The chapter's example, with names of any length.
	ex := source{"": commit("t", "two", "three"), "two": commit("t"), "three": commit("t"), "4": commit("t", "two", "three")}
	if l, e := Bases(ex.get, "", "4"); e != api.OK || !slices.Equal(l, []string{"three", "two"}) {
		t.Error(l, e)
	}
}

func TestP13_3Peel(t *testing.T) {
	for id, want := range map[string]api.Errno{"1": api.OK, "g": api.OK, "h": api.OK, "w": api.OK, "x": api.OK, "t": api.ErrKind, "b": api.ErrKind, "k": api.ErrKind, "l": api.ErrKind, "7": api.ErrKind, "0": api.ErrKind, "?": api.ErrMissing, "o": api.ErrLimit} {
		p, e := Peel(world().get, id)
		if q, _ := plainPeel(world(), id, 0); e != want || p != q {
			t.Error(id, p, e)
		}
	}
	for n := range 12 {
		for last, want := range map[string]api.Errno{"1": api.OK, "b": api.ErrKind, "t": api.ErrKind, "?": api.ErrMissing} {
			s := world()
			top := last
			for i := range n {
				id := "tag" + strconv.Itoa(i)
				s[id] = tag(top, 1+i%4) // whatever kind a tag says
				top = id
			}
			if n > 8 {
				want = api.ErrLimit
			}
			p, e := Peel(s.get, top)
			if e != want || (e == api.OK) != (p == "1") || e != api.OK && p != "" {
				t.Error(n, last, p, e)
			}
		}
	}
}

func TestP13_4Closed(t *testing.T) {
	s := world()
	for id := range s {
		l, e := Closure(s.get, []edges.Edge{{Id: id}}, nil)
		if e != api.OK {
			continue
		}
		there := map[string]bool{}
		for _, x := range l {
			there[x.Id] = true
		}
		for _, x := range l {
			for _, y := range edges.Of(s[x.Id]) {
				if !there[y.Id] {
					t.Error(id, l, y)
				}
			}
		}
		checkWalks(t, s, []edges.Edge{{Id: id}}, nil)
	}
}

// TestRule3: what is handed in stays, its spare room, too; answers are new.
func TestRule3Unchanged(t *testing.T) {
	s := world()
	first := append(make([]edges.Edge, 0, 9), to(0, "u4t")...)
	room := first[:9]
	before, stop := slices.Clone(room), in("uc")
	l, _ := Closure(s.get, first, stop)
	o, _ := Order(s.get, first, stop)
	for _, x := range [][]edges.Edge{l, o} {
		for i := range x[:cap(x)] {
			x[:cap(x)][i] = edges.Edge{Id: "spoilt"}
		}
	}
	old := append(make([]string, 0, 9), "5", "4")
	log, _ := Log(s.get, old)
	bases, _ := Bases(s.get, "4", "5")
	for _, x := range [][]string{log, bases} {
		for i := range x[:cap(x)] {
			x[:cap(x)][i] = "spoilt"
		}
	}
	if !slices.Equal(room, before) || len(stop) != 2 || !slices.Equal(old[:3], []string{"5", "4", ""}) {
		t.Error(room, stop, old[:3])
	}
	for id, w := range world() {
		if !slices.Equal(s[id].Entries, w.Entries) || !slices.Equal(s[id].Parents, w.Parents) {
			t.Error(id, s[id])
		}
	}
	if m, e := Closure(s.get, first, stop); e != api.OK || !slices.Equal(ids(m), letters("421tb3e")) {
		t.Error(m, e)
	}
}

// TestRule5: a source that isn't there has no objects.
func TestRule5NoSource(t *testing.T) {
	if l, e := Closure(nil, to(0, "a"), nil); e != api.ErrMissing || len(l) != 0 {
		t.Error(l, e)
	}
	if l, e := Closure(nil, to(0, "a"), in("a")); e != api.OK || len(l) != 0 {
		t.Error(l, e)
	}
	if l, e := Order(nil, to(0, "a"), nil); e != api.ErrMissing || len(l) != 0 {
		t.Error(l, e)
	}
	if l, e := Log(nil, []string{"a"}); e != api.ErrMissing || len(l) != 0 {
		t.Error(l, e)
	}
	if is, e := Ahead(nil, "a", "a"); e != api.ErrMissing || is {
		t.Error(is, e)
	}
	if l, e := Bases(nil, "a", "a"); e != api.ErrMissing || len(l) != 0 {
		t.Error(l, e)
	}
	if id, e := Peel(nil, "a"); e != api.ErrMissing || id != "" {
		t.Error(id, e)
	}
}

// drawn: a source of so many objects, each number told by next: edges go down alone, or anywhere, of right kinds, or any.
func drawn(n int, down, right bool, next func(n int) int) source {
	kinds := make([]int, n)
	for i := range kinds {
		kinds[i] = 1 + next(4)
	}
	pick := func(i, kind int) string {
		for range 9 {
			j := next(n + 1)
			if down && j >= i || right && (j == n || kinds[j] != kind) {
				continue
			}
			return strconv.Itoa(j)
		}
		return ""
	}
	s := source{}
	if right { // what a name stands for that finds none
		s[""] = api.Object{Kind: api.Tree}
	}
	for i, k := range kinds {
		o := api.Object{Kind: k}
		switch k {
		case api.Tree:
			for range next(5) {
				if id := pick(i, 1); id != "" {
					o.Entries = append(o.Entries, api.Entry{Mode: 1 + next(2), Id: id})
				}
				if id := pick(i, 2); id != "" {
					o.Entries = append(o.Entries, api.Entry{Mode: 3, Id: id})
				}
			}
		case api.Commit:
			o.Tree = pick(i, 2)
			for range next(4) {
				if id := pick(i, 3); id != "" {
					o.Parents = append(o.Parents, id)
				}
			}
		case api.Tag:
			o.Of = 1 + next(4)
			o.Target = pick(i, o.Of)
			if o.Target == "" {
				o.Of = api.Tree
			}
		}
		s[strconv.Itoa(i)] = o
	}
	return s
}

// checkDrawn: all calls, of edges that are drawn, too.
func checkDrawn(t *testing.T, s source, next func(n int) int) {
	t.Helper()
	for range 6 {
		var first []edges.Edge
		stop := map[string]bool{}
		for range next(4) {
			x := edges.Edge{Id: strconv.Itoa(next(len(s) + 1))}
			if next(2) == 0 {
				x.Kind = s[x.Id].Kind
			} else if next(6) == 0 {
				x.Kind = next(6)
			}
			first = append(first, x)
		}
		for range next(3) {
			stop[strconv.Itoa(next(len(s)))] = next(9) > 0
		}
		checkWalks(t, s, first, stop)
	}
	var names []string
	for range 4 {
		names = append(names, strconv.Itoa(next(len(s)+1)))
	}
	checkHistories(t, s, names)
}

func TestDrawn(t *testing.T) {
	r := rand.New(rand.NewSource(13))
	for i := range 4000 {
		s := drawn(1+r.Intn(14), i%2 == 0, i%3 > 0, r.Intn)
		checkDrawn(t, s, r.Intn)
		if t.Failed() {
			return
		}
	}
}

// TestDrawnHistories: of commits alone, whose Parents are many.
func TestDrawnHistories(t *testing.T) {
	r := rand.New(rand.NewSource(31))
	for i := range 600 {
		n := 2 + r.Intn(12)
		s := source{"t": tree("")}
		var names []string
		for k := range n {
			var parents []string
			for range r.Intn(4) {
				j := r.Intn(n)
				if i%4 > 0 { // down alone
					j = r.Intn(k + 1)
				}
				if j != k {
					parents = append(parents, strconv.Itoa(j))
				}
			}
			s[strconv.Itoa(k)] = commit("t", parents...)
			names = append(names, strconv.Itoa(k))
		}
		checkHistories(t, s, names)
		if t.Failed() {
			return
		}
	}
}

func FuzzGraph(f *testing.F) {
	f.Add([]byte("a source of bytes, which tell what is drawn"))
	f.Add([]byte{})
	f.Fuzz(func(t *testing.T, b []byte) {
		next := func(n int) int {
			if len(b) == 0 {
				return 0
			}
			x := int(b[0])
			b = b[1:]
			return x % n
		}
		s := drawn(1+next(20), next(2) == 0, next(2) == 0, next)
		checkDrawn(t, s, next)
	})
}
