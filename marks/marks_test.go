package marks

import (
	"iter"
	"math"
	"slices"
	"testing"

	"hutch/api"
)

// someWidths holds the least and the greatest width, and those at which a
// word of 64 bits, or of 32 or 8, begins or ends.
var someWidths = []int{0, 1, 2, 7, 8, 9, 31, 32, 33, 63, 64, 65, 100, 127, 128, 129, 130, 192, 193, 1000, 65535, 65536}

// farNumbers are below 0 or above every width; cut to 8, 16 or 32 bits some
// of them would be small numbers.
var farNumbers = []int{
	math.MinInt, math.MinInt + 1, math.MinInt32, -65536, -256, -130, -128, -65, -64, -63, -2, -1,
	65537, 65536 + 7, 1 << 20, math.MaxInt32, 1 << 32, 1<<32 + 3, 1<<40 + 64, math.MaxInt - 63, math.MaxInt - 1, math.MaxInt,
}

// plain is a set as one would say it: the width, and of each number below it
// whether it is in.
type plain []bool

func (p plain) has(i int) bool { return i >= 0 && i < len(p) && p[i] }

func (p plain) set(i int, in bool) bool {
	if i < 0 || i >= len(p) || p[i] == in {
		return false
	}
	p[i] = in
	return true
}

func (p plain) all() []int {
	var l []int
	for i, in := range p {
		if in {
			l = append(l, i)
		}
	}
	return l
}

func (p plain) next(i int) (int, bool) {
	for _, n := range p.all() {
		if n >= i {
			return n, true
		}
	}
	return 0, false
}

func (p plain) rank(i int) int {
	below := 0
	for _, n := range p.all() {
		if n < i {
			below++
		}
	}
	return below
}

func (p plain) pick(k int) (int, bool) {
	if l := p.all(); k >= 0 && k < len(l) {
		return l[k], true
	}
	return 0, false
}

func mustNew(t testing.TB, width int) *Set {
	t.Helper()
	s, e := New(width)
	if s == nil || e != api.OK {
		t.Fatalf("New(%d): %v, %d", width, s, e)
	}
	return s
}

// filled makes a set, and the same as a plain one, with the numbers that in
// says.
func filled(t testing.TB, width int, in func(i int) bool) (*Set, plain) {
	t.Helper()
	s, p := mustNew(t, width), make(plain, width)
	for i := range width {
		if in(i) {
			p[i] = true
			if !s.Put(i) {
				t.Fatalf("width %d: Put(%d) of one that is not in it: false", width, i)
			}
		}
	}
	return s, p
}

// someSets goes through sets of small widths: empty, full, with single ones,
// thinly and thickly filled, with whole words of nothing between.
func someSets(t testing.TB) iter.Seq2[*Set, plain] {
	shapes := []func(width int) func(i int) bool{
		func(int) func(int) bool { return func(int) bool { return false } },
		func(int) func(int) bool { return func(int) bool { return true } },
		func(int) func(int) bool { return func(i int) bool { return i == 0 } },
		func(w int) func(int) bool { return func(i int) bool { return i == w-1 } },
		func(w int) func(int) bool { return func(i int) bool { return i == 0 || i == w-1 } },
		func(int) func(int) bool { return func(i int) bool { return i%64 == 0 } },
		func(int) func(int) bool { return func(i int) bool { return i%64 == 63 } },
		func(int) func(int) bool { return func(i int) bool { return i%2 == 1 } },
		func(int) func(int) bool { return func(i int) bool { return i*i%7 == 2 } },
		func(int) func(int) bool { return func(i int) bool { return i%97 == 5 } },
		func(int) func(int) bool { return func(i int) bool { return i/64%2 == 1 } },
		func(int) func(int) bool { return func(i int) bool { return i/64%2 == 0 && i%3 > 0 } },
	}
	return func(yield func(*Set, plain) bool) {
		for _, width := range []int{0, 1, 2, 63, 64, 65, 100, 127, 128, 129, 130, 193, 320, 400} {
			for _, shape := range shapes {
				if s, p := filled(t, width, shape(width)); !yield(s, p) {
					return
				}
			}
		}
	}
}

// asked tells the numbers that sets of a width are asked for: those from some
// below 0 to some past the end, and far ones.
func asked(width int) []int {
	l := slices.Clone(farNumbers)
	for i := -5; i < width+70; i++ {
		l = append(l, i)
	}
	return l
}

// same holds a set against a plain one, by Has, Count, Width and All.
func same(t testing.TB, s *Set, p plain) {
	t.Helper()
	want := p.all()
	if s.Width() != len(p) || s.Count() != len(want) {
		t.Fatalf("width %d, count %d; not %d, %d", s.Width(), s.Count(), len(p), len(want))
	}
	for i := range p {
		if s.Has(i) != p[i] {
			t.Fatalf("width %d: Has(%d) is %v", len(p), i, s.Has(i))
		}
	}
	if got := slices.Collect(s.All()); !slices.Equal(got, want) {
		t.Fatalf("width %d: All is %v, not %v", len(p), got, want)
	}
}

func TestExample(t *testing.T) {
	s := mustNew(t, 100)
	s.Put(3)
	s.Put(70)
	if n, ok := s.Next(4); s.Count() != 2 || n != 70 || !ok || s.Rank(70) != 1 {
		t.Errorf("Count %d, Next(4) %d %v, Rank(70) %d", s.Count(), n, ok, s.Rank(70))
	}
}

// P2.1

func TestNewIsOfNothing(t *testing.T) {
	for _, width := range someWidths {
		same(t, mustNew(t, width), make(plain, width))
	}
}

func TestNewOfWidthsThatMayNotBe(t *testing.T) {
	for _, width := range farNumbers {
		if s, e := New(width); s != nil || e != api.ErrArg {
			t.Errorf("New(%d): %v, %d", width, s, e)
		}
	}
}

func TestNewMakesSetsApart(t *testing.T) {
	a, b := mustNew(t, 70), mustNew(t, 70)
	a.Put(5)
	if b.Has(5) || b.Count() != 0 || !b.Put(5) {
		t.Error("one set has what was put into another one")
	}
}

func TestPutAndDropOfEachOne(t *testing.T) {
	for _, width := range []int{1, 2, 63, 64, 65, 128, 130, 200} {
		s, p := mustNew(t, width), make(plain, width)
		for i := range width {
			if !s.Put(i) || s.Put(i) {
				t.Fatalf("width %d: Put(%d) twice", width, i)
			}
			p[i] = true
			same(t, s, p)
		}
		for i := range width {
			if !s.Drop(i) || s.Drop(i) {
				t.Fatalf("width %d: Drop(%d) twice", width, i)
			}
			p[i] = false
			same(t, s, p)
		}
	}
}

func TestPutOfOneAlone(t *testing.T) {
	for _, width := range someWidths {
		for _, i := range []int{0, 1, 31, 32, 62, 63, 64, 65, 127, 128, 65534, 65535, width - 1} {
			if i < 0 || i >= width {
				continue
			}
			s, p := mustNew(t, width), make(plain, width)
			p[i] = true
			if s.Drop(i) || !s.Put(i) {
				t.Fatalf("width %d: Drop, then Put of %d", width, i)
			}
			same(t, s, p)
			if !s.Drop(i) {
				t.Fatalf("width %d: Drop(%d)", width, i)
			}
			same(t, s, make(plain, width))
		}
	}
}

func TestNumbersBeyondChangeNothing(t *testing.T) {
	for s, p := range someSets(t) {
		beyond := slices.Clone(farNumbers)
		for past := range 130 {
			beyond = append(beyond, len(p)+past, -1-past)
		}
		for _, i := range beyond {
			if s.Has(i) || s.Drop(i) || s.Put(i) || s.Has(i) || s.Drop(i) {
				t.Fatalf("width %d: %d is told as one that may be in it", len(p), i)
			}
		}
		same(t, s, p)
	}
}

func TestWidestSet(t *testing.T) {
	s, p := filled(t, 65536, func(int) bool { return true })
	same(t, s, p)
	if s.Put(65536) || s.Put(65535) || s.Drop(65536) || !s.Drop(65535) || s.Count() != 65535 {
		t.Error("the greatest one of the widest set")
	}
}

// FuzzSet works a set and a plain one side by side; each three bytes say what
// is done, and with which number.
func FuzzSet(f *testing.F) {
	var long []byte
	for i, x := 0, uint32(1); i < 3000; i++ {
		long = append(long, byte(x>>24))
		x = x*1664525 + 1013904223
	}
	for _, width := range []uint16{0, 1, 64, 65, 130, 700} {
		f.Add(width, long)
	}
	f.Fuzz(func(t *testing.T, wide uint16, script []byte) {
		width := int(wide) % 1024
		s, p := mustNew(t, width), make(plain, width)
		for ; len(script) >= 3; script = script[3:] {
			i := (int(script[1])<<8|int(script[2]))%(width+9) - 4
			in := script[0]%3 > 0
			change := s.Drop
			if in {
				change = s.Put
			}
			if got, want := change(i), p.set(i, in); got != want {
				t.Fatalf("width %d: %d, in: %v: %v", width, i, in, got)
			}
			sameAnswers(t, s, p, i)
		}
		same(t, s, p)
	})
}

// P2.2

// sameAnswers asks a set and a plain one for one number.
func sameAnswers(t testing.TB, s *Set, p plain, i int) {
	t.Helper()
	if got, want := s.Has(i), p.has(i); got != want {
		t.Fatalf("of %v: Has(%d) is %v", p.all(), i, got)
	}
	if got, want := s.Rank(i), p.rank(i); got != want {
		t.Fatalf("of %v: Rank(%d) is %d, not %d", p.all(), i, got, want)
	}
	got, ok := s.Next(i)
	if want, there := p.next(i); got != want || ok != there {
		t.Fatalf("of %v: Next(%d) is %d, %v; not %d, %v", p.all(), i, got, ok, want, there)
	}
	got, ok = s.Pick(i)
	if want, there := p.pick(i); got != want || ok != there {
		t.Fatalf("of %v: Pick(%d) is %d, %v; not %d, %v", p.all(), i, got, ok, want, there)
	}
}

func TestNextRankPick(t *testing.T) {
	for s, p := range someSets(t) {
		for _, i := range asked(len(p)) {
			sameAnswers(t, s, p, i)
		}
		same(t, s, p)
	}
}

func TestNextRankPickOfTheWidest(t *testing.T) {
	in := []int{0, 63, 64, 4096, 32767, 32768, 65472, 65535}
	s, p := filled(t, 65536, func(i int) bool { return slices.Contains(in, i) })
	for _, n := range in {
		for i := n - 2; i <= n+2; i++ {
			sameAnswers(t, s, p, i)
		}
	}
	for i := -2; i < 12; i++ {
		sameAnswers(t, s, p, i)
	}
	for _, i := range farNumbers {
		sameAnswers(t, s, p, i)
	}
}

func TestNextRankPickBehindDrops(t *testing.T) {
	s, p := filled(t, 300, func(i int) bool { return i%5 != 1 })
	for i := 299; i >= 0; i -= 3 {
		if s.Drop(i) != p.set(i, false) {
			t.Fatalf("Drop(%d)", i)
		}
	}
	for _, i := range asked(300) {
		sameAnswers(t, s, p, i)
	}
}

func TestAllIsStoppedAnywhere(t *testing.T) {
	for s, p := range someSets(t) {
		want, all := p.all(), s.All()
		for stop := 1; stop <= len(want); stop++ {
			var got []int
			for i := range all {
				if got = append(got, i); len(got) == stop {
					break
				}
			}
			if !slices.Equal(got, want[:stop]) {
				t.Fatalf("stopped behind %d: %v, not %v", stop, got, want[:stop])
			}
		}
		same(t, s, p)
	}
}

// A range would panic if it were called again; here that is counted.
func TestAllYieldsNoMoreOnceStopped(t *testing.T) {
	for s, p := range someSets(t) {
		for stop := 1; stop <= len(p.all()); stop++ {
			calls := 0
			s.All()(func(int) bool { calls++; return calls < stop })
			if calls != stop {
				t.Fatalf("of %v: stopped behind %d, but called %d times", p.all(), stop, calls)
			}
		}
	}
}

func TestAllIsRangedOverAgainAndWithinItself(t *testing.T) {
	s, p := filled(t, 200, func(i int) bool { return i%31 == 1 })
	want, all := p.all(), s.All()
	var outer []int
	for i := range all {
		outer = append(outer, i)
		if inner := slices.Collect(all); !slices.Equal(inner, want) {
			t.Fatalf("within, at %d: %v, not %v", i, inner, want)
		}
	}
	if !slices.Equal(outer, want) {
		t.Errorf("around: %v, not %v", outer, want)
	}
}

// Each change is made at each of the steps: of what is ahead of the step, at
// it and behind it, in the same word and in others.
func TestAllIsAsItWasWhenItBegan(t *testing.T) {
	changes := []func(s *Set, p plain, at int){
		func(s *Set, p plain, at int) { s.Drop(at); p.set(at, false) },
		func(s *Set, p plain, at int) { s.Put(at + 1); p.set(at+1, true) },
		func(s *Set, p plain, at int) { s.Put(at - 1); p.set(at-1, true) },
		func(s *Set, p plain, at int) { s.Put(at + 64); p.set(at+64, true) },
		func(s *Set, p plain, at int) { s.Put(s.Width() - 1); p.set(len(p)-1, true) },
		func(s *Set, p plain, _ int) {
			for i := range p {
				s.Drop(i)
				p[i] = false
			}
		},
		func(s *Set, p plain, _ int) {
			for i := range p {
				s.Put(i)
				p[i] = true
			}
		},
		func(s *Set, p plain, at int) {
			if n, ok := s.Next(at + 1); ok {
				s.Drop(n)
				p[n] = false
			}
		},
	}
	for number, change := range changes {
		for step := range 9 {
			s, p := filled(t, 300, func(i int) bool { return i%37 == 2 })
			then, all := p.all(), s.All()
			var got []int
			for i := range all {
				if len(got) == step {
					change(s, p, i)
				}
				got = append(got, i)
			}
			if !slices.Equal(got, then) {
				t.Fatalf("change %d at step %d: %v, not %v", number, step, got, then)
			}
			same(t, s, p)
			if again := slices.Collect(all); !slices.Equal(again, p.all()) {
				t.Fatalf("change %d at step %d, gone through again: %v, not %v", number, step, again, p.all())
			}
		}
	}
}

func TestAllBeginsWhenItIsRangedOver(t *testing.T) {
	s := mustNew(t, 130)
	s.Put(4)
	all := s.All()
	s.Drop(4)
	s.Put(129)
	if got := slices.Collect(all); !slices.Equal(got, []int{129}) {
		t.Errorf("changed ahead of the going through: %v", got)
	}
}

func TestAllThatChangesAsItStops(t *testing.T) {
	s, p := filled(t, 130, func(i int) bool { return i%2 == 0 })
	for i := range s.All() {
		s.Drop(i)
		p[i] = false
		if i == 66 {
			break
		}
	}
	same(t, s, p)
}

func TestCopyIsAnotherOneWithTheSame(t *testing.T) {
	for s, p := range someSets(t) {
		c := s.Copy()
		if c == nil || c == s {
			t.Fatalf("width %d: the copy is nil, or the set itself", len(p))
		}
		same(t, c, p)
		for i := range p {
			if s.Drop(i) != p[i] {
				t.Fatalf("Drop(%d) of what was copied", i)
			}
		}
		same(t, c, p)
		same(t, s, make(plain, len(p)))
		for i := range p {
			if c.Put(i) == p[i] {
				t.Fatalf("Put(%d) into a copy", i)
			}
		}
		same(t, s, make(plain, len(p)))
		if c.Put(len(p)) || c.Put(-1) {
			t.Fatalf("width %d: a copy takes what is beyond", len(p))
		}
	}
}

func TestNilSet(t *testing.T) {
	var s *Set
	if s.Width() != 0 || s.Count() != 0 || s.Copy() != nil {
		t.Errorf("Width %d, Count %d, Copy %v", s.Width(), s.Count(), s.Copy())
	}
	for _, i := range asked(0) {
		if s.Put(i) || s.Drop(i) || s.Has(i) || s.Rank(i) != 0 {
			t.Errorf("Put, Drop, Has or Rank of %d", i)
		}
		if n, ok := s.Next(i); n != 0 || ok {
			t.Errorf("Next(%d): %d, %v", i, n, ok)
		}
		if n, ok := s.Pick(i); n != 0 || ok {
			t.Errorf("Pick(%d): %d, %v", i, n, ok)
		}
	}
	for i := range s.All() {
		t.Errorf("All tells %d", i)
	}
}

// P2.3

func TestPickOfRank(t *testing.T) {
	for s, p := range someSets(t) {
		for i := range s.All() {
			if n, ok := s.Pick(s.Rank(i)); n != i || !ok {
				t.Fatalf("of %v: Pick(Rank(%d)) is %d, %v", p.all(), i, n, ok)
			}
		}
	}
}

func TestNextIsPickOfRank(t *testing.T) {
	check := func(s *Set, width int) {
		for _, i := range asked(width) {
			n, ok := s.Next(i)
			if m, there := s.Pick(s.Rank(i)); n != m || ok != there {
				t.Fatalf("width %d: Next(%d) is %d, %v; Pick(Rank) %d, %v", width, i, n, ok, m, there)
			}
		}
	}
	for s, p := range someSets(t) {
		check(s, len(p))
	}
	check(nil, 0)
}
