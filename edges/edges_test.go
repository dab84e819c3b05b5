package edges

import (
	"math"
	"math/rand"
	"reflect"
	"slices"
	"sort"
	"strconv"
	"strings"
	"testing"

	"diptych/api"
)

func tree() api.Object {
	return api.Object{Kind: api.Tree, Entries: []api.Entry{
		{Mode: api.ModeFile, Name: "a", Id: "x"},
		{Mode: api.ModeTree, Name: "b", Id: "x"},
		{Mode: api.ModeExec, Name: "c", Id: "w"},
		{Mode: api.ModeFile, Name: "d", Id: "x"},
	}}
}

func commit() api.Object {
	return api.Object{Kind: api.Commit, Tree: "t", Parents: []string{"q", "p"}, Who: "ann", When: 7, Text: "hello\n"}
}

func tag() api.Object {
	return api.Object{Kind: api.Tag, Target: "g", Of: api.Commit, Name: "v1", Who: "ann", When: 7, Text: "hello\n"}
}

// full: an object of any kind with all fields filled: those that its kind doesn't name hold no edges.
func full(kind int) api.Object {
	return api.Object{Kind: kind, Text: "text", Entries: tree().Entries, Tree: "t", Parents: []string{"q", "p", "q"},
		Target: "g", Of: api.Blob, Name: "v1", Who: "ann", When: 7}
}

// kinds: the four, and numbers of none.
func kinds() []int {
	return []int{1, 2, 3, 4, 0, -1, 5, 6, 256 + 2, 1<<32 + 3, math.MinInt, math.MaxInt}
}

// samples: of every kind and none, of few names and many.
func samples() []api.Object {
	out := []api.Object{{}, {Kind: api.Blob}, {Kind: api.Blob, Text: "x"}, {Kind: api.Tree}, {Kind: api.Commit}, {Kind: api.Tag},
		tree(), commit(), tag(), {Kind: api.Commit, Tree: "t"}, {Kind: api.Commit, Tree: "t", Parents: []string{"t", "t"}},
		{Kind: api.Tree, Entries: []api.Entry{}}, {Kind: api.Commit, Parents: []string{}}}
	for _, k := range kinds() {
		out = append(out, full(k))
		o := tag()
		o.Of = k
		out = append(out, o)
		t := tree()
		t.Entries[1].Mode = k
		out = append(out, t)
	}
	big := api.Object{Kind: api.Tree}
	for i := range 600 {
		big.Entries = append(big.Entries, api.Entry{Mode: 1 + i%3, Name: strconv.Itoa(i), Id: strconv.Itoa(i * 7 % 301)})
	}
	wide := api.Object{Kind: api.Commit, Tree: "t"}
	for i := range 20 {
		wide.Parents = append(wide.Parents, strings.Repeat("p", i*5%13))
	}
	return append(out, big, wide)
}

// deep: a copy that shares no list.
func deep(o api.Object) api.Object {
	o.Entries = append([]api.Entry(nil), o.Entries...)
	o.Parents = append([]string(nil), o.Parents...)
	return o
}

// plainOf: the edges, by the chapter's words.
func plainOf(o api.Object) []Edge {
	out := []Edge{}
	if o.Kind == 2 {
		for _, x := range o.Entries {
			k := 1
			if x.Mode == 3 {
				k = 2
			}
			out = append(out, Edge{x.Id, k})
		}
	}
	if o.Kind == 3 {
		out = append(out, Edge{o.Tree, 2})
		for _, x := range o.Parents {
			out = append(out, Edge{x, 3})
		}
	}
	if o.Kind == 4 {
		out = append(out, Edge{o.Target, o.Of})
	}
	return out
}

// plainPut: an object whose edges have these names, in order.
func plainPut(o api.Object, ids []string) api.Object {
	o = deep(o)
	for i, id := range ids {
		switch {
		case o.Kind == 2:
			o.Entries[i].Id = id
		case o.Kind == 3 && i > 0:
			o.Parents[i-1] = id
		case o.Kind == 3:
			o.Tree = id
		default:
			o.Target = id
		}
	}
	return o
}

// same: all fields, an empty list being as good as none.
func same(a, b api.Object) bool { return reflect.DeepEqual(deep(a), deep(b)) }

// own: each edge's own name.
func own(x Edge) (string, api.Errno) { return x.Id, api.OK }

func TestP12_1Of(t *testing.T) {
	for i, x := range []struct {
		o    api.Object
		want []Edge
	}{
		{api.Object{Kind: api.Blob, Text: "x"}, nil},
		{tree(), []Edge{{"x", api.Blob}, {"x", api.Tree}, {"w", api.Blob}, {"x", api.Blob}}},
		{commit(), []Edge{{"t", api.Tree}, {"q", api.Commit}, {"p", api.Commit}}},
		{tag(), []Edge{{"g", api.Commit}}},
		{api.Object{Kind: api.Tag, Target: "g", Of: api.Tree}, []Edge{{"g", api.Tree}}},
		{api.Object{Kind: api.Commit, Tree: "t"}, []Edge{{"t", api.Tree}}},
		{api.Object{Kind: api.Tree}, nil},
	} {
		if l := Of(x.o); !slices.Equal(l, x.want) {
			t.Error(i, l, x.want)
		}
	}
	for i, o := range samples() {
		if l := Of(o); !slices.Equal(l, plainOf(o)) {
			t.Error(i, o, l)
		}
	}
}

func TestP12_1OfNoKind(t *testing.T) {
	for _, k := range kinds()[4:] {
		if l, n := Of(full(k)), Names(full(k)); len(l) != 0 || len(n) != 0 {
			t.Error(k, l, n)
		}
	}
}

func TestP12_1Names(t *testing.T) {
	for i, x := range []struct {
		o    api.Object
		want []string
	}{
		{api.Object{Kind: api.Blob, Text: "x"}, nil},
		{tree(), []string{"w", "x"}},
		{commit(), []string{"p", "q", "t"}},
		{tag(), []string{"g"}},
		{api.Object{Kind: api.Commit, Tree: "t", Parents: []string{"t", "", "\xff", "t"}}, []string{"", "t", "\xff"}},
		{api.Object{Kind: api.Tree}, nil},
		{api.Object{Kind: api.Tag}, []string{""}},
	} {
		if l := Names(x.o); !slices.Equal(l, x.want) {
			t.Error(i, l, x.want)
		}
	}
	for i, o := range samples() {
		held := map[string]bool{}
		for _, x := range plainOf(o) {
			held[x.Id] = true
		}
		l := Names(o)
		for k, n := range l {
			if !held[n] || k > 0 && l[k-1] >= n {
				t.Error(i, k, l)
			}
		}
		if len(l) != len(held) {
			t.Error(i, l, len(held))
		}
	}
}

func TestP12_2Map(t *testing.T) {
	for i, o := range samples() {
		var asked []Edge
		var ids []string
		m, e := Map(o, func(x Edge) (string, api.Errno) {
			asked = append(asked, x)
			ids = append(ids, "n"+strconv.Itoa(len(asked)*7%5)) // by its turn, not by its name
			return ids[len(ids)-1], api.OK
		})
		if e != api.OK || !slices.Equal(asked, plainOf(o)) || !same(m, plainPut(o, ids)) {
			t.Error(i, m, e, asked)
		}
	}
}

func TestP12_2FirstError(t *testing.T) {
	for i, o := range samples() {
		edges := plainOf(o)
		if len(edges) > 30 {
			edges = edges[:30]
		}
		for stop := range edges {
			for _, no := range []api.Errno{api.ErrMissing, api.ErrRange, 99, -1} {
				var asked []Edge
				m, e := Map(o, func(x Edge) (string, api.Errno) {
					asked = append(asked, x)
					if len(asked) > stop { // later ones would tell another error
						return "z", no + api.Errno(len(asked)-1-stop)
					}
					return "y", api.OK
				})
				if e != no || !reflect.DeepEqual(m, api.Object{}) || !slices.Equal(asked, edges[:stop+1]) {
					t.Error(i, stop, no, m, e, asked)
				}
			}
		}
	}
}

func TestP12_2NotAskedOfNothing(t *testing.T) {
	for _, o := range []api.Object{{}, {Kind: api.Blob, Text: "x"}, {Kind: api.Tree}, full(api.Blob), full(0), full(5), full(-1)} {
		m, e := Map(o, func(Edge) (string, api.Errno) { t.Error("asked", o); return "", api.ErrForm })
		if e != api.OK || !same(m, o) {
			t.Error(o, m, e)
		}
	}
}

func TestP12_2MemoryOfItsOwn(t *testing.T) {
	for i, o := range samples() {
		before := deep(o)
		m, e := Map(o, func(x Edge) (string, api.Errno) { return x.Id + "'", api.OK })
		if e != api.OK || !same(o, before) {
			t.Error(i, "changed", o, e)
		}
		kept := deep(m)
		spoil(o)
		if !same(m, kept) {
			t.Error(i, "shared", m)
		}
	}
}

// spoil: changes all that an object's lists hold.
func spoil(o api.Object) {
	for k := range o.Entries {
		o.Entries[k] = api.Entry{Mode: 77, Name: "spoilt", Id: "spoilt"}
	}
	for k := range o.Parents {
		o.Parents[k] = "spoilt"
	}
}

// An f that changes what was handed in meanwhile is asked for the edges that were there.
func TestP12_2WhatIsAskedIsKeptAside(t *testing.T) {
	for i, o := range samples() {
		want, before := plainOf(o), deep(o)
		var asked []Edge
		m, e := Map(o, func(x Edge) (string, api.Errno) {
			asked = append(asked, x)
			spoil(o)
			return x.Id, api.OK
		})
		if e != api.OK || !slices.Equal(asked, want) || !same(m, before) {
			t.Error(i, m, e, asked)
		}
	}
}

func TestP12_1NothingChangedNorShared(t *testing.T) {
	for i, o := range samples() {
		before := deep(o)
		a, b := Of(o), Names(o)
		if !same(o, before) {
			t.Error(i, "changed", o)
		}
		for k := range a {
			a[k] = Edge{"spoilt", 99}
		}
		for k := range b {
			b[k] = "spoilt"
		}
		if !same(o, before) || !slices.Equal(Of(o), plainOf(o)) {
			t.Error(i, "shared", o)
		}
	}
}

func TestP12_2SpareRoom(t *testing.T) {
	room := []string{"q", "p", "spare"}
	entries := append(tree().Entries, api.Entry{Name: "spare"})
	for _, o := range []api.Object{{Kind: api.Commit, Tree: "t", Parents: room[:2]}, {Kind: api.Tree, Entries: entries[:4]}} {
		m, e := Map(o, own)
		if e != api.OK || !same(m, o) {
			t.Error(m, e)
		}
		Of(o)
		Names(o)
		m.Parents = append(m.Parents, "more")
		m.Entries = append(m.Entries, api.Entry{Name: "more"})
	}
	if room[2] != "spare" || entries[4].Name != "spare" {
		t.Error(room, entries)
	}
}

func TestP12_2NoFunction(t *testing.T) {
	m, e := Map(api.Object{Kind: api.Blob, Text: "x"}, nil)
	if e != api.OK || m.Text != "x" {
		t.Error(m, e)
	}
	m, e = Map(commit(), nil)
	if e != api.OK || !same(m, plainPut(commit(), []string{"", "", ""})) {
		t.Error(m, e)
	}
}

func TestP12_3OwnNames(t *testing.T) {
	for i, o := range samples() {
		if m, e := Map(o, own); e != api.OK || !same(m, o) {
			t.Error(i, m, e)
		}
	}
}

func TestP12_3ThereAndBack(t *testing.T) {
	there := func(x Edge) (string, api.Errno) { return strconv.Itoa(x.Kind) + x.Id, api.OK }
	back := func(x Edge) (string, api.Errno) { return strings.TrimPrefix(x.Id, strconv.Itoa(x.Kind)), api.OK }
	for i, o := range samples() {
		m, e := Map(o, there)
		if e != api.OK || len(Of(o)) > 0 && same(m, o) {
			t.Error(i, "there", m, e)
		}
		if m, e = Map(m, back); e != api.OK || !same(m, o) {
			t.Error(i, "back", m, e)
		}
	}
}

func FuzzEdges(f *testing.F) {
	for i := range 6 {
		f.Add(i, int64(i))
	}
	f.Fuzz(func(t *testing.T, kind int, seed int64) {
		r := rand.New(rand.NewSource(seed))
		o := full(kind)
		o.Of = r.Intn(7) - 1
		for range r.Intn(9) {
			o.Entries = append(o.Entries, api.Entry{Mode: r.Intn(5), Id: strconv.Itoa(r.Intn(6))})
			o.Parents = append(o.Parents, strconv.Itoa(r.Intn(6)))
		}
		l := Of(o)
		if !slices.Equal(l, plainOf(o)) {
			t.Fatal(o, l)
		}
		var ids []string
		for _, x := range l {
			ids = append(ids, x.Id)
		}
		sort.Strings(ids)
		if n := Names(o); !slices.Equal(n, slices.Compact(ids)) {
			t.Fatal(o, n)
		}
		if m, e := Map(o, own); e != api.OK || !same(m, o) {
			t.Fatal(o, m, e)
		}
	})
}
