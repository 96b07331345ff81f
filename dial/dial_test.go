package dial

import (
	"iter"
	"math"
	"slices"
	"testing"

	"hutch/api"
)

// farSizes are neither a count of nodes nor one of hands; cut to 8, 16 or 32
// bits some of them would be small numbers.
var farSizes = []int{
	math.MinInt, math.MinInt + 1, math.MinInt + 7, math.MinInt32, -1 << 32, -65536, -65535, -256, -7, -2, -1,
	65537, 65536 + 7, 1 << 17, math.MaxInt32, 1 << 32, 1<<32 + 1, 1<<32 + 7, 1<<40 + 7, math.MaxInt - 1, math.MaxInt,
}

// farNodes are below 0 or past the end of all dials.
var farNodes = []int32{
	math.MinInt32, math.MinInt32 + 1, -65537, -65536, -256, -9, -8, -2, -1,
	65536, 65537, 65543, 65544, 1 << 20, math.MaxInt32 - 1, math.MaxInt32,
}

// farHands are below 0 or past the end of all dials.
var farHands = []int{
	math.MinInt, math.MinInt32, -1 << 32, -65536, -256, -8, -2, -1,
	8, 9, 256, 65536, math.MaxInt32, 1 << 32, 1<<32 + 1, math.MaxInt - 1, math.MaxInt,
}

// plain is a dial as one would say it: the ring's nodes in their order, behind
// the last of which the first one comes, and at which node each hand is (that
// means nothing while the ring is empty).
type plain struct {
	nodes int
	ring  []int32
	hands []int32
}

func (p *plain) hasNode(node int32) bool { return node >= 0 && int64(node) < int64(p.nodes) }

func (p *plain) hasHand(hand int) bool { return hand >= 0 && hand < len(p.hands) }

func (p *plain) has(node int32) bool { return slices.Contains(p.ring, node) }

// around tells the ring from a hand on, none, if there is no such hand.
func (p *plain) around(hand int) []int32 {
	if !p.hasHand(hand) || len(p.ring) == 0 {
		return nil
	}
	place := slices.Index(p.ring, p.hands[hand])
	return slices.Concat(p.ring[place:], p.ring[:place])
}

func (p *plain) at(hand int) (int32, bool) {
	if l := p.around(hand); len(l) > 0 {
		return l[0], true
	}
	return 0, false
}

func (p *plain) next(node int32) (int32, bool) {
	place := slices.Index(p.ring, node)
	if place < 0 {
		return 0, false
	}
	return p.ring[(place+1)%len(p.ring)], true
}

func (p *plain) gap(a, b int) int {
	end, ok := p.at(b)
	if !ok || !p.hasHand(a) {
		return 0
	}
	return slices.Index(p.around(a), end)
}

func (p *plain) insert(node int32, hand int) api.Errno {
	if !p.hasNode(node) || !p.hasHand(hand) {
		return api.ErrArg
	}
	if p.has(node) {
		return api.ErrTwice
	}
	if len(p.ring) == 0 {
		for hand := range p.hands {
			p.hands[hand] = node
		}
	}
	p.ring = append(p.around(hand), node)
	return api.OK
}

func (p *plain) remove(node int32) bool {
	next, ok := p.next(node)
	if !ok {
		return false
	}
	for hand, at := range p.hands {
		if at == node {
			p.hands[hand] = next
		}
	}
	p.ring = slices.DeleteFunc(p.ring, func(other int32) bool { return other == node })
	return true
}

func (p *plain) step(hand int) bool {
	at, ok := p.at(hand)
	if !ok {
		return false
	}
	p.hands[hand], _ = p.next(at)
	return true
}

func (p *plain) set(hand int, node int32) api.Errno {
	if !p.hasHand(hand) || !p.hasNode(node) {
		return api.ErrArg
	}
	if !p.has(node) {
		return api.ErrNone
	}
	p.hands[hand] = node
	return api.OK
}

func mustNew(t testing.TB, nodes, hands int) *Dial {
	t.Helper()
	d, e := New(nodes, hands)
	if d == nil || e != api.OK {
		t.Fatalf("New(%d, %d): %v, %d", nodes, hands, d != nil, e)
	}
	return d
}

// both is a dial and a plain one that are worked side by side.
type both struct {
	d *Dial
	p *plain
}

func newBoth(t testing.TB, nodes, hands int) both {
	t.Helper()
	return both{mustNew(t, nodes, hands), &plain{nodes: nodes, hands: make([]int32, hands)}}
}

func (b both) insert(t testing.TB, node int32, hand int) {
	t.Helper()
	if e, f := b.d.Insert(node, hand), b.p.insert(node, hand); e != f {
		t.Fatalf("Insert(%d, %d): %d, not %d; %v", node, hand, e, f, *b.p)
	}
}

func (b both) remove(t testing.TB, node int32) {
	t.Helper()
	if e, f := b.d.Remove(node), b.p.remove(node); e != f {
		t.Fatalf("Remove(%d): %v, not %v; %v", node, e, f, *b.p)
	}
}

func (b both) step(t testing.TB, hand int) {
	t.Helper()
	if e, f := b.d.Step(hand), b.p.step(hand); e != f {
		t.Fatalf("Step(%d): %v, not %v; %v", hand, e, f, *b.p)
	}
}

func (b both) set(t testing.TB, hand int, node int32) {
	t.Helper()
	if e, f := b.d.Set(hand, node), b.p.set(hand, node); e != f {
		t.Fatalf("Set(%d, %d): %d, not %d; %v", hand, node, e, f, *b.p)
	}
}

// removeAll takes all nodes out, from the least one on.
func (b both) removeAll(t testing.TB) {
	t.Helper()
	for node := range int32(b.p.nodes) {
		b.remove(t, node)
	}
}

// same holds a dial against the plain one, by all that can be looked at.
func (b both) same(t testing.TB) {
	t.Helper()
	if got := b.d.Len(); got != len(b.p.ring) {
		t.Fatalf("Len: %d, not %d", got, len(b.p.ring))
	}
	for node := int32(-3); node < int32(b.p.nodes)+12; node++ {
		b.sameNode(t, node)
	}
	for hand := -2; hand < len(b.p.hands)+10; hand++ {
		b.sameHand(t, hand)
	}
}

func (b both) sameNode(t testing.TB, node int32) {
	t.Helper()
	if got := b.d.Has(node); got != b.p.has(node) {
		t.Fatalf("Has(%d): %v; %v", node, got, *b.p)
	}
	got, ok := b.d.Next(node)
	if next, there := b.p.next(node); got != next || ok != there {
		t.Fatalf("Next(%d): %d, %v; not %d, %v; %v", node, got, ok, next, there, *b.p)
	}
}

func (b both) sameHand(t testing.TB, hand int) {
	t.Helper()
	got, ok := b.d.At(hand)
	if node, there := b.p.at(hand); got != node || ok != there {
		t.Fatalf("At(%d): %d, %v; not %d, %v; %v", hand, got, ok, node, there, *b.p)
	}
	if l, want := slices.Collect(b.d.From(hand)), b.p.around(hand); !slices.Equal(l, want) {
		t.Fatalf("From(%d): %v, not %v", hand, l, want)
	}
	for other := -1; other < len(b.p.hands)+1; other++ {
		b.sameGap(t, hand, other)
		b.sameGap(t, other, hand)
	}
}

func (b both) sameGap(t testing.TB, from, to int) {
	t.Helper()
	if got, want := b.d.Gap(from, to), b.p.gap(from, to); got != want {
		t.Fatalf("Gap(%d, %d): %d, not %d; %v", from, to, got, want, *b.p)
	}
}

// filled makes a dial whose ring is laid as said, from the hand 0 on, and whose
// hands are set at the nodes that are said, as far as some are.
func filled(t testing.TB, nodes int, ring []int32, hands []int32) both {
	t.Helper()
	b := newBoth(t, nodes, len(hands))
	for _, node := range ring {
		b.insert(t, node, 0)
	}
	for hand, node := range hands {
		if node >= 0 {
			b.set(t, hand, node)
		}
	}
	return b
}

// someBoths goes through dials of few nodes: without a node, with rings that
// are empty, of one node, of some and of all, with hands at one node and apart.
func someBoths(t testing.TB) iter.Seq[both] {
	shapes := []struct {
		nodes int
		ring  []int32
		hands []int32
	}{
		{0, nil, []int32{-1}},
		{0, nil, []int32{-1, -1, -1, -1, -1, -1, -1, -1}},
		{1, nil, []int32{-1}},
		{1, []int32{0}, []int32{0}},
		{1, []int32{0}, []int32{0, 0, 0}},
		{2, []int32{1}, []int32{1, 1}},
		{2, []int32{1, 0}, []int32{1}},
		{2, []int32{1, 0}, []int32{1, 0, 0}},
		{3, []int32{0, 1, 2}, []int32{2}},
		{3, []int32{0, 2, 1}, []int32{0, 1, 2}},
		{5, nil, []int32{-1, -1, -1}},
		{5, []int32{4, 1, 3}, []int32{3, 3, 3}},
		{7, []int32{6, 0, 3, 5, 2}, []int32{0, 6, 0}},
		{9, []int32{8, 4, 2, 0, 1, 3, 5}, []int32{5, 5, 8, 4, 2, 0, 5, 3}},
		{12, []int32{11, 0, 10, 1, 9, 2, 8, 3, 7, 4, 6, 5}, []int32{11, 5, 0, 9}},
	}
	return func(yield func(both) bool) {
		for _, x := range shapes {
			if !yield(filled(t, x.nodes, x.ring, x.hands)) {
				return
			}
		}
	}
}

// again makes dials that stand as this one does.
func (b both) again(t testing.TB) both {
	t.Helper()
	hands := slices.Repeat([]int32{-1}, len(b.p.hands))
	for hand := range hands {
		if at, ok := b.p.at(hand); ok {
			hands[hand] = at
		}
	}
	return filled(t, b.p.nodes, b.p.ring, hands)
}

// badNodes are numbers of which none is a node.
func (b both) badNodes() []int32 {
	n := int32(b.p.nodes)
	return append(slices.Clone(farNodes), n, n+1, n+8)
}

// badHands are numbers of which none is a hand.
func (b both) badHands() []int {
	n := len(b.p.hands)
	return append(slices.Clone(farHands), n, n+1, n+b.p.nodes+8)
}

func TestExample(t *testing.T) {
	b := newBoth(t, 9, 1)
	for _, node := range []int32{4, 6, 8} {
		b.insert(t, node, 0)
	}
	if l := slices.Collect(b.d.From(0)); !slices.Equal(l, []int32{4, 6, 8}) {
		t.Errorf("From: %v", l)
	}
	b.step(t, 0)
	b.remove(t, 6)
	if at, ok := b.d.At(0); at != 8 || !ok {
		t.Errorf("At: %d, %v", at, ok)
	}
	if l := slices.Collect(b.d.From(0)); !slices.Equal(l, []int32{8, 4}) {
		t.Errorf("From: %v", l)
	}
	b.same(t)
}

// P5.1

func TestNewMakesAnEmptyRing(t *testing.T) {
	for _, nodes := range []int{0, 1, 2, 7, 8, 9, 255, 256, 257, 768} {
		for hands := 1; hands <= 8; hands++ {
			newBoth(t, nodes, hands).same(t)
		}
	}
}

func TestNewOfTheMostNodesAndHands(t *testing.T) {
	for _, nodes := range []int{0, 1, 65535, 65536} {
		for _, hands := range []int{1, 8} {
			d := mustNew(t, nodes, hands)
			for node := range int32(nodes) {
				if d.Has(node) {
					t.Fatalf("New(%d, %d): node %d stands in the ring", nodes, hands, node)
				}
			}
			if _, ok := d.At(hands - 1); ok || d.Len() != 0 {
				t.Errorf("New(%d, %d): %d nodes", nodes, hands, d.Len())
			}
			if e := d.Insert(int32(nodes), 0); e != api.ErrArg {
				t.Errorf("New(%d, %d) has a node %d: %d", nodes, hands, nodes, e)
			}
			if nodes == 0 {
				continue
			}
			if e := d.Insert(0, hands); e != api.ErrArg {
				t.Errorf("New(%d, %d) has a hand %d: %d", nodes, hands, hands, e)
			}
			if e := d.Insert(int32(nodes-1), hands-1); e != api.OK || d.Len() != 1 {
				t.Errorf("New(%d, %d): the last node, the last hand: %d", nodes, hands, e)
			}
		}
	}
}

func TestNewOfSizesThatMayNotBe(t *testing.T) {
	refused := func(nodes, hands int) {
		t.Helper()
		if d, e := New(nodes, hands); d != nil || e != api.ErrArg {
			t.Errorf("New(%d, %d): %v, %d", nodes, hands, d != nil, e)
		}
	}
	badHands := append(slices.Clone(farSizes), 0, 9, 10, 16, 255, 256, 257, 65535, 65536)
	for _, nodes := range append([]int{0, 1, 7, 768, 65535, 65536}, farSizes...) {
		for _, hands := range badHands {
			refused(nodes, hands)
		}
	}
	for _, nodes := range farSizes {
		for hands := 1; hands <= 8; hands++ {
			refused(nodes, hands)
		}
	}
}

func TestNewMakesDialsApart(t *testing.T) {
	a, b := newBoth(t, 4, 2), newBoth(t, 4, 2)
	a.insert(t, 1, 0)
	b.same(t)
	b.insert(t, 1, 1)
	b.insert(t, 3, 1)
	b.step(t, 0)
	a.same(t)
	a.remove(t, 1)
	a.same(t)
	b.same(t)
}

// P5.2

// Each node comes in at each hand, in each ring: those that stand there
// already, too.
func TestInsertOfEachNodeAtEachHand(t *testing.T) {
	for b := range someBoths(t) {
		for hand := range b.p.hands {
			for node := range int32(b.p.nodes) {
				c := b.again(t)
				stood, empty := c.d.Has(node), c.d.Len() == 0
				c.insert(t, node, hand)
				c.same(t)
				l := slices.Collect(c.d.From(hand))
				if !stood && l[len(l)-1] != node {
					t.Fatalf("Insert(%d, %d): around from the hand %v", node, hand, l)
				}
				for other := range c.p.hands {
					if at, ok := c.d.At(other); empty && (at != node || !ok) {
						t.Fatalf("Insert(%d, %d), first: the hand %d is at %d, %v", node, hand, other, at, ok)
					}
				}
			}
		}
	}
}

// Nodes come in at one hand, then at another one that is elsewhere.
func TestInsertAtHandsInTurn(t *testing.T) {
	for hands := 1; hands <= 8; hands++ {
		for by := range hands {
			b := newBoth(t, 20, hands)
			for node := range int32(20) {
				b.insert(t, node, int(node)*(by+1)%hands)
				b.same(t)
				b.step(t, int(node)%hands)
				b.same(t)
			}
		}
	}
}

func TestInsertOfNodesAndAtHandsThatThereAreNot(t *testing.T) {
	for b := range someBoths(t) {
		refused := func(node int32, hand int) {
			t.Helper()
			if e := b.d.Insert(node, hand); e != api.ErrArg {
				t.Fatalf("Insert(%d, %d): %d; %v", node, hand, e, *b.p)
			}
		}
		for _, node := range b.badNodes() {
			for _, hand := range append(b.badHands(), 0, len(b.p.hands)-1) {
				refused(node, hand)
			}
			if b.d.Remove(node) || b.d.Has(node) {
				t.Fatalf("Remove(%d)", node)
			}
		}
		for _, hand := range b.badHands() {
			for node := range int32(b.p.nodes) { // those that stand in the ring, too
				refused(node, hand)
			}
		}
		b.same(t)
		b.removeAll(t)
		b.same(t)
	}
}

func TestErrorsInTheirOrder(t *testing.T) {
	d := mustNew(t, 4, 2)
	d.Insert(1, 0)
	d.Insert(2, 0)
	for _, x := range []struct {
		what      string
		got, want api.Errno
	}{
		{"Insert, a node that stands, no such hand", d.Insert(1, 2), api.ErrArg},
		{"Insert, a node that stands, a hand below 0", d.Insert(2, -1), api.ErrArg},
		{"Insert, no such node", d.Insert(4, 0), api.ErrArg},
		{"Insert, a node below 0", d.Insert(-1, 0), api.ErrArg},
		{"Insert, neither", d.Insert(4, 2), api.ErrArg},
		{"Insert, a node that stands", d.Insert(1, 0), api.ErrTwice},
		{"Insert, a node that stands, another hand", d.Insert(2, 1), api.ErrTwice},
		{"Set, no such hand, a node that does not stand", d.Set(2, 0), api.ErrArg},
		{"Set, no such hand, a node that stands", d.Set(-1, 1), api.ErrArg},
		{"Set, no such node", d.Set(0, 4), api.ErrArg},
		{"Set, a node below 0", d.Set(1, -1), api.ErrArg},
		{"Set, neither", d.Set(2, 4), api.ErrArg},
		{"Set, a node that does not stand", d.Set(0, 0), api.ErrNone},
		{"Set, another one", d.Set(1, 3), api.ErrNone},
		{"Set, a node that stands", d.Set(1, 1), api.OK},
	} {
		if x.got != x.want {
			t.Errorf("%s: %d, not %d", x.what, x.got, x.want)
		}
	}
	if l := slices.Collect(d.From(0)); !slices.Equal(l, []int32{1, 2}) {
		t.Errorf("From: %v", l)
	}
}

func TestRemoveOfEachNode(t *testing.T) {
	for b := range someBoths(t) {
		for node := range int32(b.p.nodes) {
			c := b.again(t)
			c.remove(t, node)
			c.same(t)
			if c.d.Has(node) {
				t.Fatalf("%d stands in the ring, though it was removed", node)
			}
			c.remove(t, node)
			c.same(t)
			for hand := range c.p.hands {
				c.insert(t, node, hand)
				c.same(t)
				c.remove(t, node)
				c.same(t)
			}
		}
	}
}

// Of each set of hands that are at one node, all go on when it is removed, and
// the others stay.
func TestRemoveOfANodeAtWhichSeveralHandsAre(t *testing.T) {
	ring := []int32{5, 2, 7, 0}
	for hands := 1; hands <= 8; hands++ {
		for set := range 1 << hands {
			for place, node := range ring {
				b := newBoth(t, 8, hands)
				for _, other := range ring {
					b.insert(t, other, 0)
				}
				next, elsewhere := ring[(place+1)%4], ring[(place+2)%4]
				want := make([]int32, hands)
				for hand := range hands {
					if set>>hand&1 == 1 {
						b.set(t, hand, node)
						want[hand] = next
					} else {
						b.set(t, hand, elsewhere)
						want[hand] = elsewhere
					}
				}
				b.remove(t, node)
				for hand := range hands {
					if at, ok := b.d.At(hand); at != want[hand] || !ok {
						t.Fatalf("Remove(%d): the hand %d is at %d, %v, not at %d", node, hand, at, ok, want[hand])
					}
				}
				b.same(t)
			}
		}
	}
}

// The ring is emptied in each order of its nodes, and laid anew.
func TestEmptiedAndLaidAnew(t *testing.T) {
	for _, order := range [][]int32{{1, 2, 3}, {1, 3, 2}, {2, 1, 3}, {2, 3, 1}, {3, 1, 2}, {3, 2, 1}} {
		for _, first := range []int32{0, 1, 2, 3, 4} {
			for hand := range 3 {
				b := filled(t, 5, []int32{1, 2, 3}, []int32{2, 2, 3})
				for _, node := range order {
					b.remove(t, node)
					b.same(t)
				}
				b.step(t, hand)
				b.set(t, hand, first)
				b.same(t)
				b.insert(t, first, hand)
				b.same(t)
				b.step(t, hand)
				b.same(t)
				b.insert(t, (first+2)%5, (hand+1)%3)
				b.same(t)
				b.insert(t, (first+1)%5, (hand+2)%3)
				b.same(t)
			}
		}
	}
}

// P5.3

func TestStepOfEachHand(t *testing.T) {
	for b := range someBoths(t) {
		for hand := range b.p.hands {
			for range b.p.nodes + 2 {
				b.step(t, hand)
				b.same(t)
			}
		}
	}
}

func TestSetOfEachHandAtEachNode(t *testing.T) {
	for b := range someBoths(t) {
		for hand := range b.p.hands {
			for node := range int32(b.p.nodes) {
				b.set(t, hand, node)
				b.same(t)
				if at, ok := b.d.At(hand); b.d.Has(node) && (at != node || !ok) {
					t.Fatalf("Set(%d, %d): it is at %d, %v", hand, node, at, ok)
				}
			}
		}
	}
}

func TestHandsAndNodesThatThereAreNot(t *testing.T) {
	for b := range someBoths(t) {
		for _, hand := range b.badHands() {
			b.sameHand(t, hand)
			b.step(t, hand)
			for _, node := range append(b.badNodes(), 0, int32(b.p.nodes)-1) {
				if e := b.d.Set(hand, node); e != api.ErrArg {
					t.Fatalf("Set(%d, %d): %d; %v", hand, node, e, *b.p)
				}
			}
			for node := range int32(b.p.nodes) {
				b.set(t, hand, node)
			}
			for _, other := range b.badHands() {
				b.sameGap(t, hand, other)
			}
		}
		for _, node := range b.badNodes() {
			b.sameNode(t, node)
			for hand := range b.p.hands {
				if e := b.d.Set(hand, node); e != api.ErrArg {
					t.Fatalf("Set(%d, %d): %d; %v", hand, node, e, *b.p)
				}
			}
		}
		b.same(t)
	}
}

// P5.4

func TestLooksChangeNothing(t *testing.T) {
	for b := range someBoths(t) {
		b.same(t)
		b.same(t)
	}
}

// So many steps bring the one hand to where the other one is, and no less do.
func TestGapIsHowManySteps(t *testing.T) {
	for b := range someBoths(t) {
		for from := range b.p.hands {
			for to := range b.p.hands {
				c := b.again(t)
				gap := c.d.Gap(from, to)
				if gap < 0 || gap >= max(c.d.Len(), 1) {
					t.Fatalf("Gap(%d, %d): %d of %d", from, to, gap, c.d.Len())
				}
				end, _ := c.d.At(to)
				for left := gap; left > 0; left-- {
					if at, _ := c.d.At(from); at == end {
						t.Fatalf("Gap(%d, %d): %d, but it is there %d ahead", from, to, gap, left)
					}
					c.step(t, from)
				}
				if at, _ := c.d.At(from); at != end {
					t.Fatalf("Gap(%d, %d): %d, but it is at %d, not at %d", from, to, gap, at, end)
				}
			}
		}
	}
}

func TestNilDial(t *testing.T) {
	var d *Dial
	if d.Len() != 0 {
		t.Errorf("Len: %d", d.Len())
	}
	hands, nodes := append([]int{0, 1, 7}, farHands...), append([]int32{0, 1}, farNodes...)
	for _, hand := range hands {
		if at, ok := d.At(hand); at != 0 || ok || d.Step(hand) {
			t.Errorf("hand %d: At %d, %v", hand, at, ok)
		}
		for node := range d.From(hand) {
			t.Errorf("From(%d) tells %d", hand, node)
		}
		for _, other := range hands {
			if gap := d.Gap(hand, other); gap != 0 {
				t.Errorf("Gap(%d, %d): %d", hand, other, gap)
			}
		}
		for _, node := range nodes {
			if e, f := d.Insert(node, hand), d.Set(hand, node); e != api.ErrNil || f != api.ErrNil {
				t.Errorf("Insert, Set of %d, %d: %d, %d", node, hand, e, f)
			}
		}
	}
	for _, node := range nodes {
		if next, ok := d.Next(node); next != 0 || ok || d.Has(node) || d.Remove(node) {
			t.Errorf("node %d: Next %d, %v", node, next, ok)
		}
	}
}

func TestGoingIsStoppedAnywhere(t *testing.T) {
	for b := range someBoths(t) {
		for hand := range b.p.hands {
			seq, want := b.d.From(hand), b.p.around(hand)
			for stop := 1; stop <= len(want); stop++ {
				var got []int32
				for node := range seq {
					if got = append(got, node); len(got) == stop {
						break
					}
				}
				if !slices.Equal(got, want[:stop]) {
					t.Fatalf("From(%d), stopped behind %d: %v, not %v", hand, stop, got, want[:stop])
				}
			}
		}
		b.same(t)
	}
}

// A range would panic if it were called again; here that is counted.
func TestGoingYieldsNoMoreOnceStopped(t *testing.T) {
	for b := range someBoths(t) {
		for hand := range b.p.hands {
			for stop := 1; stop <= b.d.Len(); stop++ {
				calls := 0
				b.d.From(hand)(func(int32) bool { calls++; return calls < stop })
				if calls != stop {
					t.Fatalf("From(%d): stopped behind %d, but called %d times", hand, stop, calls)
				}
			}
		}
	}
}

func TestGoingAgainAndWithinItself(t *testing.T) {
	for b := range someBoths(t) {
		for hand := range b.p.hands {
			seq, want := b.d.From(hand), b.p.around(hand)
			var outer []int32
			for node := range seq {
				outer = append(outer, node)
				if inner := slices.Collect(seq); !slices.Equal(inner, want) {
					t.Fatalf("From(%d), within, at %d: %v, not %v", hand, node, inner, want)
				}
			}
			if !slices.Equal(outer, want) {
				t.Fatalf("From(%d), around: %v, not %v", hand, outer, want)
			}
		}
	}
}

// Each change is made at each of the steps: of what is ahead of the step, at
// it and behind it, and of the hands.
func TestGoingIsAsItWasWhenItBegan(t *testing.T) {
	ring, hands := []int32{4, 0, 9, 2, 7, 5}, []int32{9, 4, 9}
	near := func(at int32, by int) int32 {
		return ring[(slices.Index(ring, at)+by+6)%6]
	}
	changes := []func(b both, at int32){
		func(b both, at int32) { b.remove(t, at) },
		func(b both, at int32) { b.remove(t, near(at, 1)) },
		func(b both, at int32) { b.remove(t, near(at, 2)) },
		func(b both, at int32) { b.remove(t, near(at, -1)) },
		func(b both, at int32) { b.insert(t, 3, 0) },
		func(b both, at int32) { b.insert(t, 3, 1) },
		func(b both, at int32) { b.set(t, 1, at); b.insert(t, 3, 1) },
		func(b both, at int32) { b.set(t, 1, near(at, 1)); b.insert(t, 3, 1) },
		func(b both, at int32) { b.step(t, 0) },
		func(b both, at int32) { b.set(t, 0, near(at, -1)) },
		func(b both, at int32) { b.set(t, 0, near(at, 3)) },
		func(b both, at int32) { b.remove(t, at); b.insert(t, at, 0) },
		func(b both, at int32) { b.remove(t, at); b.insert(t, at, 1) },
		func(b both, at int32) { b.remove(t, near(at, 1)); b.insert(t, near(at, 1), 1) },
		func(b both, at int32) { b.removeAll(t) },
		func(b both, at int32) { b.removeAll(t); b.insert(t, 3, 2); b.insert(t, at, 2) },
	}
	for number, change := range changes {
		for step := range ring {
			for hand := range hands {
				b := filled(t, 12, ring, hands)
				seq, then := b.d.From(hand), b.p.around(hand)
				var got []int32
				for node := range seq {
					if len(got) == step {
						change(b, node)
					}
					got = append(got, node)
				}
				if !slices.Equal(got, then) {
					t.Fatalf("From(%d), change %d at step %d: %v, not %v", hand, number, step, got, then)
				}
				b.same(t)
				if l, want := slices.Collect(seq), b.p.around(hand); !slices.Equal(l, want) {
					t.Fatalf("From(%d), change %d at step %d, again: %v, not %v", hand, number, step, l, want)
				}
			}
		}
	}
}

func TestGoingBeginsWhenItIsRangedOver(t *testing.T) {
	b := newBoth(t, 5, 2)
	first, second := b.d.From(0), b.d.From(1)
	b.insert(t, 4, 1)
	b.insert(t, 0, 1)
	b.insert(t, 2, 0)
	b.step(t, 1)
	if l := slices.Collect(first); !slices.Equal(l, []int32{4, 0, 2}) {
		t.Errorf("From(0), changed ahead of the going through: %v", l)
	}
	if l := slices.Collect(second); !slices.Equal(l, []int32{0, 2, 4}) {
		t.Errorf("From(1), changed ahead of the going through: %v", l)
	}
}

func TestGoingThatChangesAsItStops(t *testing.T) {
	b := filled(t, 9, []int32{8, 1, 6, 3, 4, 5}, []int32{6, 1})
	for node := range b.d.From(0) {
		b.remove(t, node)
		if node == 4 {
			break
		}
	}
	b.same(t)
	if l := slices.Collect(b.d.From(0)); !slices.Equal(l, []int32{5, 8, 1}) {
		t.Errorf("From: %v", l)
	}
}

func TestWidestDial(t *testing.T) {
	const nodes, hands = 65536, 8
	d := mustNew(t, nodes, hands)
	var want []int32
	for i := range int32(nodes) {
		node := i * 5 % nodes
		if e := d.Insert(node, int(i)%hands); e != api.OK {
			t.Fatalf("Insert(%d): %d", node, e)
		}
		want = append(want, node)
	}
	if l := slices.Collect(d.From(3)); d.Len() != nodes || !slices.Equal(l, want) {
		t.Fatalf("Len %d, %d of From", d.Len(), len(l))
	}
	for _, node := range append(slices.Clone(farNodes), 0, nodes-1) {
		if e := d.Insert(node, 0); e == api.OK {
			t.Fatalf("Insert(%d): %d", node, e)
		}
	}
	if e := d.Set(1, want[nodes-1]); e != api.OK || d.Gap(0, 1) != nodes-1 || d.Gap(1, 0) != 1 {
		t.Fatalf("Set: %d; Gap %d, %d", e, d.Gap(0, 1), d.Gap(1, 0))
	}
	for i, node := range want { // all but the last one, each with seven hands at it
		if at, ok := d.At(7); at != node || !ok || d.Len() != nodes-i {
			t.Fatalf("At: %d, %v; Len %d", at, ok, d.Len())
		}
		if i < nodes-1 && !d.Remove(node) {
			t.Fatalf("Remove(%d)", node)
		}
	}
	for hand := range hands {
		if l := slices.Collect(d.From(hand)); !slices.Equal(l, want[nodes-1:]) {
			t.Fatalf("From(%d): %v", hand, l)
		}
	}
}

// P5.5

// whole says whether what must hold of each dial holds: step by step a hand
// meets each node of the ring once, and is where it was.
func whole(t *testing.T, d *Dial, nodes, hands int) {
	t.Helper()
	for hand := range hands {
		l := slices.Collect(d.From(hand))
		if len(l) != d.Len() {
			t.Fatalf("From(%d): %v; Len %d", hand, l, d.Len())
		}
		met := map[int32]bool{}
		for _, node := range l {
			if at, ok := d.At(hand); at != node || !ok || met[node] || !d.Has(node) {
				t.Fatalf("the hand %d is at %d, %v; From tells %v", hand, at, ok, l)
			}
			met[node] = true
			if next, ok := d.Next(node); !ok || !d.Step(hand) {
				t.Fatalf("no step from %d", node)
			} else if at, _ := d.At(hand); at != next {
				t.Fatalf("a step from %d leads to %d, not to %d", node, at, next)
			}
		}
		if again := slices.Collect(d.From(hand)); !slices.Equal(again, l) {
			t.Fatalf("behind all steps of the hand %d: %v, not %v", hand, again, l)
		}
		for node := range int32(nodes) {
			if d.Has(node) != met[node] {
				t.Fatalf("node %d: Has %v, but met %v", node, d.Has(node), met[node])
			}
		}
	}
}

func TestDialIsWholeBehindEachStep(t *testing.T) {
	for _, size := range [][2]int{{1, 1}, {2, 1}, {3, 8}, {12, 2}, {40, 3}, {64, 8}} {
		nodes, hands := size[0], size[1]
		d := mustNew(t, nodes, hands)
		x := uint32(nodes)
		for range 1500 {
			x = x*1664525 + 1013904223
			node, hand := int32(x>>8)%int32(nodes), int(x>>4)%hands
			switch x >> 29 {
			case 0, 1, 2:
				d.Insert(node, hand)
			case 3, 4:
				d.Remove(node)
			case 5:
				d.Set(hand, node)
			default:
				d.Step(hand)
			}
			whole(t, d, nodes, hands)
		}
	}
}

func TestAHandWhoseNodeIsRemovedIsWhereTheOneBehindWas(t *testing.T) {
	for b := range someBoths(t) {
		for node := range int32(b.p.nodes) {
			c := b.again(t)
			next, stood := c.d.Next(node)
			var then [][]int32
			for hand := range c.p.hands {
				then = append(then, slices.Collect(c.d.From(hand)))
			}
			if c.d.Remove(node) != stood {
				t.Fatalf("Remove(%d), though it stood: %v", node, stood)
			}
			for hand, l := range then {
				was := append(slices.Clone(l), -1)[0]
				l = slices.DeleteFunc(l, func(other int32) bool { return other == node })
				if got := slices.Collect(c.d.From(hand)); !slices.Equal(got, l) {
					t.Fatalf("Remove(%d): around from the hand %d %v, not %v", node, hand, got, l)
				}
				if at, ok := c.d.At(hand); was == node && ok && at != next {
					t.Fatalf("Remove(%d): the hand %d is at %d, not at %d", node, hand, at, next)
				}
			}
		}
	}
}

// Every order of up to three calls, on three nodes and two hands: from an empty
// ring on, from one of one node, and from ones in which all nodes stand.
func TestAllShortScripts(t *testing.T) {
	var calls []func(b both)
	for node := range int32(3) {
		calls = append(calls, func(b both) { b.remove(t, node) })
		for hand := range 2 {
			calls = append(calls, func(b both) { b.insert(t, node, hand) }, func(b both) { b.set(t, hand, node) })
		}
	}
	for hand := range 2 {
		calls = append(calls, func(b both) { b.step(t, hand) })
	}
	var script func(ring, hands []int32, done []int)
	script = func(ring, hands []int32, done []int) {
		b := filled(t, 3, ring, hands)
		for _, call := range done {
			calls[call](b)
		}
		b.same(t)
		if len(done) == 3 {
			return
		}
		for call := range calls {
			script(ring, hands, append(done, call))
		}
	}
	script(nil, []int32{-1, -1}, nil)
	script([]int32{1}, []int32{1, 1}, nil)
	script([]int32{1, 2, 0}, []int32{1, 1}, nil)
	script([]int32{1, 2, 0}, []int32{2, 0}, nil)
}

// chanceBytes are so many bytes, without a plain order; the same ones each time.
func chanceBytes(count int) []byte {
	var l []byte
	for x := uint32(1); len(l) < count; x = x*1664525 + 1013904223 {
		l = append(l, byte(x>>24))
	}
	return l
}

// play does what a script says, each three bytes of which are a call, a node
// and a hand, of which some are none.
func (b both) play(t testing.TB, script []byte) {
	t.Helper()
	for call := range slices.Chunk(script, 3) {
		if len(call) < 3 {
			return
		}
		node := int32(call[1])%int32(b.p.nodes+3) - 1
		hand := int(call[2])%(len(b.p.hands)+2) - 1
		switch call[0] % 8 {
		case 0, 1, 2:
			b.insert(t, node, hand)
		case 3, 4:
			b.remove(t, node)
		case 5:
			b.set(t, hand, node)
		default:
			b.step(t, hand)
		}
		b.same(t)
	}
}

func TestLongScripts(t *testing.T) {
	script := chanceBytes(3000)
	for _, size := range [][2]int{{0, 1}, {1, 1}, {2, 2}, {6, 3}, {30, 8}, {63, 4}} {
		newBoth(t, size[0], size[1]).play(t, script)
	}
}

// FuzzDial begins with short scripts: long ones it would spend its time on
// making short.
func FuzzDial(f *testing.F) {
	for _, size := range [][2]byte{{0, 0}, {1, 0}, {2, 1}, {6, 2}, {30, 7}, {63, 3}} {
		f.Add(size[0], size[1], chanceBytes(90))
	}
	f.Fuzz(func(t *testing.T, n, m byte, script []byte) {
		newBoth(t, int(n)%64, int(m)%8+1).play(t, script)
	})
}
