package chain

import (
	"iter"
	"math"
	"slices"
	"testing"

	"hutch/api"
)

// farSizes are neither a count of nodes nor one of lists; cut to 8, 16 or 32
// bits some of them would be small numbers.
var farSizes = []int{
	math.MinInt, math.MinInt + 1, math.MinInt + 7, math.MinInt32, -1 << 32, -65536, -65535, -256, -7, -2, -1,
	65537, 65536 + 7, 1 << 17, math.MaxInt32, 1 << 32, 1<<32 + 1, 1<<32 + 7, 1<<40 + 7, math.MaxInt - 1, math.MaxInt,
}

// farNodes are below 0 or past the end of all chains. Those from 65536 to
// 65543 are just behind the last node of the widest ones.
var farNodes = []int32{
	math.MinInt32, math.MinInt32 + 1, -65537, -65536, -256, -9, -8, -2, -1,
	65536, 65537, 65543, 65544, 65545, 1 << 20, math.MaxInt32 - 1, math.MaxInt32,
}

// farLists are below 0 or past the end of all chains.
var farLists = []int{
	math.MinInt, math.MinInt32, -1 << 32, -65536, -256, -8, -2, -1,
	8, 9, 256, 65536, math.MaxInt32, 1 << 32, 1<<32 + 1, math.MaxInt - 1, math.MaxInt,
}

// plain is chains as one would say them: of each list its nodes, in order.
type plain struct {
	nodes int
	lists [][]int32
}

// find tells the list of a node, and its place there; -1, -1, if it stands
// in none.
func (p *plain) find(node int32) (int, int) {
	for list, l := range p.lists {
		if place := slices.Index(l, node); place >= 0 {
			return list, place
		}
	}
	return -1, -1
}

func (p *plain) hasNode(node int32) bool { return node >= 0 && int64(node) < int64(p.nodes) }

func (p *plain) hasList(list int) bool { return list >= 0 && list < len(p.lists) }

// list tells the nodes of a list, none, if there is no such list.
func (p *plain) list(list int) []int32 {
	if !p.hasList(list) {
		return nil
	}
	return slices.Clone(p.lists[list])
}

func (p *plain) back(list int) []int32 {
	l := p.list(list)
	slices.Reverse(l)
	return l
}

func (p *plain) put(list int, node int32, place int) api.Errno {
	if !p.hasList(list) || !p.hasNode(node) {
		return api.ErrArg
	}
	if in, _ := p.find(node); in >= 0 {
		return api.ErrTwice
	}
	p.lists[list] = slices.Insert(p.lists[list], place, node)
	return api.OK
}

func (p *plain) ahead(list int, node int32) api.Errno { return p.put(list, node, 0) }

func (p *plain) behind(list int, node int32) api.Errno {
	return p.put(list, node, len(p.list(list)))
}

func (p *plain) insert(node, at int32) api.Errno {
	if !p.hasNode(node) || !p.hasNode(at) {
		return api.ErrArg
	}
	if in, _ := p.find(node); in >= 0 {
		return api.ErrTwice
	}
	list, place := p.find(at)
	if list < 0 {
		return api.ErrNone
	}
	return p.put(list, node, place+1)
}

func (p *plain) remove(node int32) bool {
	list, place := p.find(node)
	if list < 0 {
		return false
	}
	p.lists[list] = slices.Delete(p.lists[list], place, place+1)
	return true
}

// at tells the node at a place of a list.
func (p *plain) at(list, place int) (int32, bool) {
	if !p.hasList(list) || place < 0 || place >= len(p.lists[list]) {
		return 0, false
	}
	return p.lists[list][place], true
}

func mustNew(t testing.TB, nodes, lists int) *Chains {
	t.Helper()
	c, e := New(nodes, lists)
	if c == nil || e != api.OK {
		t.Fatalf("New(%d, %d): %v, %d", nodes, lists, c != nil, e)
	}
	return c
}

// both is chains and plain ones that are worked side by side.
type both struct {
	c *Chains
	p *plain
}

func newBoth(t testing.TB, nodes, lists int) both {
	t.Helper()
	return both{mustNew(t, nodes, lists), &plain{nodes: nodes, lists: make([][]int32, lists)}}
}

func (b both) ahead(t testing.TB, list int, node int32) {
	t.Helper()
	if e, f := b.c.Ahead(list, node), b.p.ahead(list, node); e != f {
		t.Fatalf("Ahead(%d, %d): %d, not %d; %v", list, node, e, f, b.p.lists)
	}
}

func (b both) behind(t testing.TB, list int, node int32) {
	t.Helper()
	if e, f := b.c.Behind(list, node), b.p.behind(list, node); e != f {
		t.Fatalf("Behind(%d, %d): %d, not %d; %v", list, node, e, f, b.p.lists)
	}
}

func (b both) insert(t testing.TB, node, at int32) {
	t.Helper()
	if e, f := b.c.Insert(node, at), b.p.insert(node, at); e != f {
		t.Fatalf("Insert(%d, %d): %d, not %d; %v", node, at, e, f, b.p.lists)
	}
}

func (b both) remove(t testing.TB, node int32) {
	t.Helper()
	if e, f := b.c.Remove(node), b.p.remove(node); e != f {
		t.Fatalf("Remove(%d): %v, not %v; %v", node, e, f, b.p.lists)
	}
}

// removeAll takes all nodes out, from the least one on.
func (b both) removeAll(t testing.TB) {
	t.Helper()
	for node := range int32(b.p.nodes) {
		b.remove(t, node)
	}
}

// same holds chains against the plain ones, by all that can be looked at. The
// nodes come first: lists whose links are wrong may have no end.
func (b both) same(t testing.TB) {
	t.Helper()
	for node := int32(-3); node < int32(b.p.nodes)+12; node++ {
		b.sameNode(t, node)
	}
	for list := -2; list < len(b.p.lists)+10; list++ {
		b.sameList(t, list)
	}
}

func (b both) sameList(t testing.TB, list int) {
	t.Helper()
	want := b.p.list(list)
	if got := b.c.Len(list); got != len(want) {
		t.Fatalf("Len(%d): %d, not %d", list, got, len(want))
	}
	got, ok := b.c.First(list)
	if node, there := b.p.at(list, 0); got != node || ok != there {
		t.Fatalf("First(%d): %d, %v; not %d, %v", list, got, ok, node, there)
	}
	got, ok = b.c.Last(list)
	if node, there := b.p.at(list, len(want)-1); got != node || ok != there {
		t.Fatalf("Last(%d): %d, %v; not %d, %v", list, got, ok, node, there)
	}
	if got := slices.Collect(b.c.All(list)); !slices.Equal(got, want) {
		t.Fatalf("All(%d): %v, not %v", list, got, want)
	}
	if got, want := slices.Collect(b.c.Back(list)), b.p.back(list); !slices.Equal(got, want) {
		t.Fatalf("Back(%d): %v, not %v", list, got, want)
	}
}

func (b both) sameNode(t testing.TB, node int32) {
	t.Helper()
	list, place := b.p.find(node)
	in, ok := b.c.List(node)
	if ok != (list >= 0) || in != max(list, 0) {
		t.Fatalf("List(%d): %d, %v; not %d", node, in, ok, list)
	}
	got, ok := b.c.Next(node)
	if next, there := b.p.at(list, place+1); got != next || ok != there {
		t.Fatalf("Next(%d): %d, %v; not %d, %v", node, got, ok, next, there)
	}
	got, ok = b.c.Prev(node)
	if prev, there := b.p.at(list, place-1); got != prev || ok != there {
		t.Fatalf("Prev(%d): %d, %v; not %d, %v", node, got, ok, prev, there)
	}
}

// filled makes chains whose lists are laid as said, by Behind.
func filled(t testing.TB, nodes int, lists [][]int32) both {
	t.Helper()
	b := newBoth(t, nodes, len(lists))
	for list, l := range lists {
		for _, node := range l {
			b.behind(t, list, node)
		}
	}
	return b
}

// someBoths goes through chains of few nodes: without a node, with lists that
// are empty, of one node, of some and of all, and with nodes in none.
func someBoths(t testing.TB) iter.Seq[both] {
	shapes := []struct {
		nodes int
		lists [][]int32
	}{
		{0, [][]int32{{}}},
		{0, [][]int32{{}, {}, {}, {}, {}, {}, {}, {}}},
		{1, [][]int32{{}}},
		{1, [][]int32{{0}}},
		{1, [][]int32{{}, {0}}},
		{2, [][]int32{{1}}},
		{2, [][]int32{{1, 0}}},
		{2, [][]int32{{1}, {0}}},
		{3, [][]int32{{0, 1, 2}}},
		{4, [][]int32{{3, 1}, {}, {0}}},
		{7, [][]int32{{6, 0, 3}, {5, 2}}},
		{9, [][]int32{{}, {8, 4, 2, 0, 1, 3, 5}, {7}}},
		{8, [][]int32{{7}, {6}, {5}, {4}, {3}, {2}, {1}, {0}}},
		{30, [][]int32{{2, 4, 6, 8, 0}, {}, {29, 28, 27}, {1}, {}, {3}, {}, {10, 9}}},
	}
	return func(yield func(both) bool) {
		for _, x := range shapes {
			if !yield(filled(t, x.nodes, x.lists)) {
				return
			}
		}
	}
}

// badNodes are numbers of which none is a node.
func (b both) badNodes() []int32 {
	n := int32(b.p.nodes)
	return append(slices.Clone(farNodes), n, n+1, n+int32(len(b.p.lists))-1, n+int32(len(b.p.lists)), n+8)
}

// badLists are numbers of which none is a list.
func (b both) badLists() []int {
	n := len(b.p.lists)
	return append(slices.Clone(farLists), n, n+1, n+b.p.nodes+8)
}

func TestExample(t *testing.T) {
	b := newBoth(t, 10, 1)
	b.behind(t, 0, 5)
	b.behind(t, 0, 7)
	b.ahead(t, 0, 3)
	b.insert(t, 9, 5)
	b.same(t)
	if l := slices.Collect(b.c.All(0)); !slices.Equal(l, []int32{3, 5, 9, 7}) {
		t.Errorf("All: %v", l)
	}
}

// P4.1

func TestNewMakesEmptyLists(t *testing.T) {
	for _, nodes := range []int{0, 1, 2, 7, 8, 9, 255, 256, 257, 768} {
		for lists := 1; lists <= 8; lists++ {
			newBoth(t, nodes, lists).same(t)
		}
	}
}

func TestNewOfTheMostNodesAndLists(t *testing.T) {
	for _, nodes := range []int{0, 1, 65535, 65536} {
		for _, lists := range []int{1, 8} {
			c := mustNew(t, nodes, lists)
			for list := range lists {
				if _, ok := c.First(list); ok || c.Len(list) != 0 {
					t.Errorf("New(%d, %d): list %d has nodes", nodes, lists, list)
				}
			}
			for node := range int32(nodes) {
				if in, ok := c.List(node); in != 0 || ok {
					t.Fatalf("New(%d, %d): node %d stands in %d", nodes, lists, node, in)
				}
			}
			if e := c.Behind(lists, 0); e != api.ErrArg {
				t.Errorf("New(%d, %d) has a list %d: %d", nodes, lists, lists, e)
			}
			if e := c.Behind(0, int32(nodes)); e != api.ErrArg {
				t.Errorf("New(%d, %d) has a node %d: %d", nodes, lists, nodes, e)
			}
		}
	}
}

func TestNewOfSizesThatMayNotBe(t *testing.T) {
	refused := func(nodes, lists int) {
		t.Helper()
		if c, e := New(nodes, lists); c != nil || e != api.ErrArg {
			t.Errorf("New(%d, %d): %v, %d", nodes, lists, c != nil, e)
		}
	}
	badLists := append(slices.Clone(farSizes), 0, 9, 10, 16, 255, 256, 257, 65535, 65536)
	for _, nodes := range append([]int{0, 1, 7, 768, 65535, 65536}, farSizes...) {
		for _, lists := range badLists {
			refused(nodes, lists)
		}
	}
	for _, nodes := range farSizes {
		for lists := 1; lists <= 8; lists++ {
			refused(nodes, lists)
		}
	}
}

func TestNewMakesChainsApart(t *testing.T) {
	a, b := newBoth(t, 4, 2), newBoth(t, 4, 2)
	a.behind(t, 0, 1)
	b.same(t)
	b.behind(t, 1, 1)
	b.ahead(t, 1, 3)
	a.same(t)
	a.remove(t, 1)
	a.same(t)
	b.same(t)
}

// P4.2

func TestAheadAndBehind(t *testing.T) {
	for _, lists := range []int{1, 2, 8} {
		for nodes := int32(1); nodes <= 9; nodes++ {
			a, b := newBoth(t, int(nodes), lists), newBoth(t, int(nodes), lists)
			for node := range nodes {
				a.ahead(t, int(node)%lists, node)
				a.same(t)
				b.behind(t, int(node)%lists, node)
				b.same(t)
			}
			for list := range lists {
				if got, want := slices.Collect(a.c.All(list)), slices.Collect(b.c.Back(list)); !slices.Equal(got, want) {
					t.Fatalf("laid ahead: %v; laid behind, from the end: %v", got, want)
				}
			}
		}
	}
}

// A node is laid at every place of every list.
func TestEachPlaceOfEachList(t *testing.T) {
	shape := [][]int32{{6, 0, 3}, {}, {5}, {2, 1}}
	lay := []func(b both, list int){
		func(b both, list int) { b.ahead(t, list, 7) },
		func(b both, list int) { b.behind(t, list, 7) },
	}
	for list := range shape {
		for _, f := range lay {
			b := filled(t, 9, shape)
			f(b, list)
			b.same(t)
		}
	}
	for at := range int32(9) {
		b := filled(t, 9, shape)
		b.insert(t, 7, at)
		b.same(t)
		if in, ok := b.c.List(at); ok {
			if got, there := b.c.List(7); got != in || !there {
				t.Fatalf("behind %d of list %d: in %d, %v", at, in, got, there)
			}
			if next, _ := b.c.Next(at); next != 7 {
				t.Fatalf("right behind %d: %d", at, next)
			}
		}
	}
}

func TestLayingOfNodesAndListsThatThereAreNot(t *testing.T) {
	for b := range someBoths(t) {
		refused := func(what string, x, y int, e api.Errno) {
			t.Helper()
			if e != api.ErrArg {
				t.Fatalf("%s(%d, %d): %d; %v", what, x, y, e, b.p.lists)
			}
		}
		for _, node := range b.badNodes() {
			for _, list := range append(b.badLists(), 0, len(b.p.lists)-1) {
				refused("Ahead", list, int(node), b.c.Ahead(list, node))
				refused("Behind", list, int(node), b.c.Behind(list, node))
			}
			for _, other := range append(b.badNodes(), 0, int32(b.p.nodes)-1) {
				refused("Insert", int(node), int(other), b.c.Insert(node, other))
				refused("Insert", int(other), int(node), b.c.Insert(other, node))
			}
			if b.c.Remove(node) {
				t.Fatalf("Remove(%d)", node)
			}
		}
		for _, list := range b.badLists() {
			for node := range int32(b.p.nodes) { // those that stand in a list, too
				refused("Ahead", list, int(node), b.c.Ahead(list, node))
				refused("Behind", list, int(node), b.c.Behind(list, node))
			}
		}
		b.same(t)
		b.removeAll(t)
		b.same(t)
	}
}

// Of nodes that stand in a list, or behind ones that stand in none, nothing
// is laid; of all other ones nothing is refused.
func TestLayingOfEachNodeIntoEachList(t *testing.T) {
	for b := range someBoths(t) {
		for node := range int32(b.p.nodes) {
			_, stood := b.c.List(node)
			for list := range b.p.lists {
				b.ahead(t, list, node)
				b.same(t)
				if !stood {
					b.remove(t, node)
				}
				b.behind(t, list, node)
				b.same(t)
				if !stood {
					b.remove(t, node)
				}
			}
			for at := range int32(b.p.nodes) {
				b.insert(t, node, at)
				b.same(t)
				if !stood {
					b.remove(t, node)
				}
			}
		}
	}
}

func TestErrorsInTheirOrder(t *testing.T) {
	c := mustNew(t, 4, 2)
	c.Behind(0, 1)
	c.Behind(1, 2)
	for _, x := range []struct {
		what      string
		got, want api.Errno
	}{
		{"Ahead, no such list, a node that stands", c.Ahead(2, 1), api.ErrArg},
		{"Behind, no such list, a node that stands", c.Behind(-1, 1), api.ErrArg},
		{"Ahead, the list in which it stands", c.Ahead(0, 1), api.ErrTwice},
		{"Ahead, another list", c.Ahead(1, 1), api.ErrTwice},
		{"Behind, the list in which it stands", c.Behind(0, 1), api.ErrTwice},
		{"Behind, another list", c.Behind(1, 1), api.ErrTwice},
		{"Insert, one that stands behind none such", c.Insert(1, 4), api.ErrArg},
		{"Insert, none such behind one that stands in none", c.Insert(4, 0), api.ErrArg},
		{"Insert, one that stands behind one that stands in none", c.Insert(1, 0), api.ErrTwice},
		{"Insert, one that stands behind one that stands", c.Insert(1, 2), api.ErrTwice},
		{"Insert, one that stands behind itself", c.Insert(1, 1), api.ErrTwice},
		{"Insert, one that stands in none behind itself", c.Insert(0, 0), api.ErrNone},
		{"Insert, one that stands in none behind another one that does not", c.Insert(0, 3), api.ErrNone},
	} {
		if x.got != x.want {
			t.Errorf("%s: %d, not %d", x.what, x.got, x.want)
		}
	}
	both{c, &plain{4, [][]int32{{1}, {2}}}}.same(t)
}

func TestInsertBehindItself(t *testing.T) {
	for b := range someBoths(t) {
		for node := range int32(b.p.nodes) {
			b.insert(t, node, node)
			b.same(t)
		}
	}
}

func TestRemoveTwiceAndLayAnew(t *testing.T) {
	for b := range someBoths(t) {
		for node := range int32(b.p.nodes) {
			list, _ := b.c.List(node)
			b.remove(t, node)
			b.same(t)
			b.remove(t, node)
			b.same(t)
			b.insert(t, node, node)
			b.behind(t, (list+1)%len(b.p.lists), node)
			b.same(t)
		}
	}
}

func TestWidestChains(t *testing.T) {
	const nodes, lists = 65536, 8
	c := mustNew(t, nodes, lists)
	want := make([][]int32, lists)
	for node := range int32(nodes) {
		list := int(node) * 5 % lists
		if e := c.Behind(list, node); e != api.OK {
			t.Fatalf("Behind(%d, %d): %d", list, node, e)
		}
		want[list] = append(want[list], node)
	}
	hold := func(list int) {
		t.Helper()
		if got := slices.Collect(c.All(list)); c.Len(list) != len(want[list]) || !slices.Equal(got, want[list]) {
			t.Fatalf("list %d: Len %d, %d of All, not %d", list, c.Len(list), len(got), len(want[list]))
		}
		back := slices.Clone(want[list])
		slices.Reverse(back)
		if got := slices.Collect(c.Back(list)); !slices.Equal(got, back) {
			t.Fatalf("list %d is not turned about", list)
		}
	}
	for list := range lists {
		hold(list)
	}
	for node := range int32(nodes) { // all of them into the last list, the other way round
		if !c.Remove(node) || c.Ahead(lists-1, node) != api.OK {
			t.Fatalf("node %d", node)
		}
	}
	clear(want)
	for node := int32(nodes - 1); node >= 0; node-- {
		want[lists-1] = append(want[lists-1], node)
	}
	for list := range lists {
		hold(list)
	}
	for _, node := range farNodes {
		if e := c.Ahead(0, node); e != api.ErrArg || c.Remove(node) || c.Insert(node, 0) != api.ErrArg {
			t.Fatalf("node %d: %d", node, e)
		}
	}
}

// P4.3

func TestLooksAtNodesAndListsThatThereAreNot(t *testing.T) {
	for b := range someBoths(t) {
		for _, list := range b.badLists() {
			b.sameList(t, list)
		}
		for _, node := range b.badNodes() {
			b.sameNode(t, node)
		}
	}
}

func TestLooksChangeNothing(t *testing.T) {
	for b := range someBoths(t) {
		b.same(t)
		b.same(t)
	}
}

func TestNilChains(t *testing.T) {
	var c *Chains
	for _, list := range append([]int{0, 1, 7}, farLists...) {
		first, ok := c.First(list)
		last, there := c.Last(list)
		if first != 0 || last != 0 || ok || there || c.Len(list) != 0 {
			t.Errorf("list %d: First %d, %v; Last %d, %v; Len %d", list, first, ok, last, there, c.Len(list))
		}
		for node := range c.All(list) {
			t.Errorf("All(%d) tells %d", list, node)
		}
		for node := range c.Back(list) {
			t.Errorf("Back(%d) tells %d", list, node)
		}
		for _, node := range append([]int32{0, 1}, farNodes...) {
			if e, f := c.Ahead(list, node), c.Behind(list, node); e != api.ErrNil || f != api.ErrNil {
				t.Errorf("Ahead, Behind of %d, %d: %d, %d", list, node, e, f)
			}
		}
	}
	for _, node := range append([]int32{0, 1}, farNodes...) {
		next, ok := c.Next(node)
		prev, there := c.Prev(node)
		list, in := c.List(node)
		if next != 0 || prev != 0 || list != 0 || ok || there || in || c.Remove(node) {
			t.Errorf("node %d: Next %d, %v; Prev %d, %v; List %d, %v", node, next, ok, prev, there, list, in)
		}
		for _, at := range append([]int32{node, 0, 1}, farNodes...) {
			if e := c.Insert(node, at); e != api.ErrNil {
				t.Errorf("Insert(%d, %d): %d", node, at, e)
			}
		}
	}
}

// goings tells, of a list, both ways to go through it, and what each is to
// tell now.
func (b both) goings(list int) []going {
	return []going{
		{"All", b.c.All(list), func() []int32 { return b.p.list(list) }},
		{"Back", b.c.Back(list), func() []int32 { return b.p.back(list) }},
	}
}

type going struct {
	name string
	seq  iter.Seq[int32]
	want func() []int32
}

func TestGoingIsStoppedAnywhere(t *testing.T) {
	for b := range someBoths(t) {
		for list := range b.p.lists {
			for _, g := range b.goings(list) {
				want := g.want()
				for stop := 1; stop <= len(want); stop++ {
					var got []int32
					for node := range g.seq {
						if got = append(got, node); len(got) == stop {
							break
						}
					}
					if !slices.Equal(got, want[:stop]) {
						t.Fatalf("%s(%d), stopped behind %d: %v, not %v", g.name, list, stop, got, want[:stop])
					}
				}
			}
		}
		b.same(t)
	}
}

// A range would panic if it were called again; here that is counted.
func TestGoingYieldsNoMoreOnceStopped(t *testing.T) {
	for b := range someBoths(t) {
		for list := range b.p.lists {
			for _, g := range b.goings(list) {
				for stop := 1; stop <= b.c.Len(list); stop++ {
					calls := 0
					g.seq(func(int32) bool { calls++; return calls < stop })
					if calls != stop {
						t.Fatalf("%s(%d): stopped behind %d, but called %d times", g.name, list, stop, calls)
					}
				}
			}
		}
	}
}

func TestGoingAgainAndWithinItself(t *testing.T) {
	for b := range someBoths(t) {
		for list := range b.p.lists {
			for _, g := range b.goings(list) {
				want := g.want()
				var outer []int32
				for node := range g.seq {
					outer = append(outer, node)
					if inner := slices.Collect(g.seq); !slices.Equal(inner, want) {
						t.Fatalf("%s(%d), within, at %d: %v, not %v", g.name, list, node, inner, want)
					}
				}
				if !slices.Equal(outer, want) {
					t.Fatalf("%s(%d), around: %v, not %v", g.name, list, outer, want)
				}
			}
		}
	}
}

// turnAbout lays the nodes of a list anew, each ahead of those before it.
func (b both) turnAbout(t testing.TB, list int) {
	t.Helper()
	for _, node := range b.p.list(list) {
		b.remove(t, node)
		b.ahead(t, list, node)
	}
}

// moveTo lays a node into another list.
func (b both) moveTo(t testing.TB, list int, node int32) {
	t.Helper()
	b.remove(t, node)
	b.behind(t, list, node)
}

// Each change is made at each of the steps: of what is ahead of the step, at
// it and behind it.
func TestGoingIsAsItWasWhenItBegan(t *testing.T) {
	shape := [][]int32{{11}, {4, 0, 9, 2, 7, 5}, {}}
	near := func(b both, at int32, by int) int32 {
		_, place := b.p.find(at)
		return shape[1][(place+by+6)%6]
	}
	changes := []func(b both, at int32){
		func(b both, at int32) { b.remove(t, at) },
		func(b both, at int32) { b.remove(t, near(b, at, 1)) },
		func(b both, at int32) { b.remove(t, near(b, at, -1)) },
		func(b both, at int32) { b.insert(t, 3, at) },
		func(b both, at int32) { b.insert(t, 3, near(b, at, 1)) },
		func(b both, at int32) { b.insert(t, 3, near(b, at, -1)) },
		func(b both, at int32) { b.ahead(t, 1, 3) },
		func(b both, at int32) { b.behind(t, 1, 3) },
		func(b both, at int32) { b.moveTo(t, 1, at) },
		func(b both, at int32) { b.remove(t, at); b.ahead(t, 1, at) },
		func(b both, at int32) { b.moveTo(t, 0, at) },
		func(b both, at int32) { b.moveTo(t, 2, near(b, at, 1)) },
		func(b both, at int32) { b.moveTo(t, 1, 11) },
		func(b both, at int32) { b.turnAbout(t, 1) },
		func(b both, at int32) { b.removeAll(t) },
	}
	for number, change := range changes {
		for step := range shape[1] {
			for way := range 2 {
				b := filled(t, 12, shape)
				g := b.goings(1)[way]
				then := g.want()
				var got []int32
				for node := range g.seq {
					if len(got) == step {
						change(b, node)
					}
					got = append(got, node)
				}
				if !slices.Equal(got, then) {
					t.Fatalf("%s, change %d at step %d: %v, not %v", g.name, number, step, got, then)
				}
				b.same(t)
				if again := slices.Collect(g.seq); !slices.Equal(again, g.want()) {
					t.Fatalf("%s, change %d at step %d, again: %v, not %v", g.name, number, step, again, g.want())
				}
			}
		}
	}
}

func TestGoingBeginsWhenItIsRangedOver(t *testing.T) {
	b := newBoth(t, 5, 2)
	goings := b.goings(1)
	b.behind(t, 1, 4)
	b.behind(t, 1, 0)
	b.insert(t, 2, 4)
	for _, g := range goings {
		if got := slices.Collect(g.seq); !slices.Equal(got, g.want()) {
			t.Errorf("%s, changed ahead of the going through: %v, not %v", g.name, got, g.want())
		}
	}
}

func TestGoingThatChangesAsItStops(t *testing.T) {
	b := filled(t, 9, [][]int32{{8, 1, 6, 3, 4, 5}, {}})
	for node := range b.c.All(0) {
		b.moveTo(t, 1, node)
		if node == 6 {
			break
		}
	}
	b.same(t)
	for node := range b.c.Back(0) {
		b.moveTo(t, 1, node)
		if node == 4 {
			break
		}
	}
	b.same(t)
}

// P4.4

// stepped tells a list's nodes, one by one, as far as there are any.
func stepped(begin func(int) (int32, bool), step func(int32) (int32, bool), list int) []int32 {
	var l []int32
	for node, ok := begin(list); ok; node, ok = step(node) {
		l = append(l, node)
	}
	return l
}

// whole says whether what must hold of all chains holds: by steps and by
// ranges, forth and back, one and the same is told, each node once.
func whole(t *testing.T, c *Chains, nodes, lists int) {
	t.Helper()
	seen := map[int32]bool{}
	for list := range lists {
		forth, back := slices.Collect(c.All(list)), slices.Collect(c.Back(list))
		if next, prev := stepped(c.First, c.Next, list), stepped(c.Last, c.Prev, list); !slices.Equal(next, forth) || !slices.Equal(prev, back) {
			t.Fatalf("list %d: %v, from the end %v; by steps %v, from the end %v", list, forth, back, next, prev)
		}
		slices.Reverse(back)
		if !slices.Equal(forth, back) || len(forth) != c.Len(list) {
			t.Fatalf("list %d of %d: %v; from the end, turned about: %v", list, c.Len(list), forth, back)
		}
		for _, node := range forth {
			if in, ok := c.List(node); seen[node] || in != list || !ok {
				t.Fatalf("node %d of list %d: in %d, %v", node, list, in, ok)
			}
			seen[node] = true
		}
	}
	for node := range int32(nodes) {
		if _, ok := c.List(node); ok != seen[node] {
			t.Fatalf("node %d: stands %v, but is told %v", node, ok, seen[node])
		}
	}
}

func TestChainsAreWholeBehindEachStep(t *testing.T) {
	for _, size := range [][2]int{{1, 1}, {2, 1}, {3, 8}, {12, 2}, {40, 3}, {64, 8}} {
		nodes, lists := size[0], size[1]
		c := mustNew(t, nodes, lists)
		x := uint32(nodes)
		for range 1500 {
			x = x*1664525 + 1013904223
			node, at, list := int32(x>>8)%int32(nodes), int32(x>>16)%int32(nodes), int(x>>4)%lists
			switch x >> 30 {
			case 0:
				c.Ahead(list, node)
			case 1:
				c.Behind(list, node)
			case 2:
				c.Insert(node, at)
			default:
				c.Remove(node)
			}
			whole(t, c, nodes, lists)
		}
	}
}

func TestWhatIsRemovedLeavesAllOthersAsTheyStood(t *testing.T) {
	for b := range someBoths(t) {
		for node := range int32(b.p.nodes) {
			var then [][]int32
			for list := range b.p.lists {
				then = append(then, slices.Collect(b.c.All(list)))
			}
			stood := b.c.Remove(node)
			for list, l := range then {
				l = slices.DeleteFunc(l, func(other int32) bool { return other == node })
				if got := slices.Collect(b.c.All(list)); !slices.Equal(got, l) {
					t.Fatalf("Remove(%d): list %d is %v, not %v", node, list, got, l)
				}
			}
			if stood {
				b.c.Ahead(0, node)
			}
		}
	}
}

// Every order of up to three calls, on three nodes and two lists: from empty
// ones on, and from ones in which all nodes stand.
func TestAllShortScripts(t *testing.T) {
	var calls []func(b both)
	for node := range int32(3) {
		calls = append(calls, func(b both) { b.remove(t, node) })
		for list := range 2 {
			calls = append(calls, func(b both) { b.ahead(t, list, node) }, func(b both) { b.behind(t, list, node) })
		}
		for at := range int32(3) {
			calls = append(calls, func(b both) { b.insert(t, node, at) })
		}
	}
	var script func(begin [][]int32, done []int)
	script = func(begin [][]int32, done []int) {
		b := filled(t, 3, begin)
		for _, call := range done {
			calls[call](b)
		}
		b.same(t)
		if len(done) == 3 {
			return
		}
		for call := range calls {
			script(begin, append(done, call))
		}
	}
	script([][]int32{{}, {}}, nil)
	script([][]int32{{1, 2, 0}, {}}, nil)
	script([][]int32{{0}, {2, 1}}, nil)
}

// FuzzChains works chains and plain ones side by side; each three bytes say
// what is done, with which node, and where.
func FuzzChains(f *testing.F) {
	var long []byte
	for i, x := 0, uint32(1); i < 3000; i++ {
		long = append(long, byte(x>>24))
		x = x*1664525 + 1013904223
	}
	for _, size := range [][2]byte{{0, 0}, {1, 0}, {2, 1}, {6, 2}, {30, 7}, {63, 3}} {
		f.Add(size[0], size[1], long)
	}
	f.Fuzz(func(t *testing.T, n, m byte, script []byte) {
		nodes, lists := int(n)%64, int(m)%8+1
		b := newBoth(t, nodes, lists)
		for i := 0; i+2 < len(script); i += 3 {
			node := int32(script[i+1])%int32(nodes+3) - 1
			at := int32(script[i+2])%int32(nodes+3) - 1
			list := int(script[i+2])%(lists+2) - 1
			switch script[i] % 4 {
			case 0:
				b.ahead(t, list, node)
			case 1:
				b.behind(t, list, node)
			case 2:
				b.insert(t, node, at)
			default:
				b.remove(t, node)
			}
			b.same(t)
		}
	})
}
