package tally

import (
	"math"
	"math/big"
	"reflect"
	"regexp"
	"slices"
	"strconv"
	"strings"
	"testing"

	"hutch/api"
)

const greatest uint64 = math.MaxUint64

// row is counts as a plain row of numbers, in the order of the fields.
type row [10]uint64

// inOrder are the names, written out.
var inOrder = []string{"hits", "misses", "raised", "lowered", "pruned", "evicted", "forgotten", "cleared", "ended", "steps"}

// oneToTen is the text of the numbers from 1 to 10, written out.
const oneToTen = "hits 1 misses 2 raised 3 lowered 4 pruned 5 evicted 6 forgotten 7 cleared 8 ended 9 steps 10"

// edges are numbers about which sums, differences and texts may go wrong.
var edges = []uint64{
	0, 1, 2, 9, 10, 255, 256, 1<<31 - 1, 1 << 31, 1<<32 - 1, 1 << 32, 1<<53 + 1,
	1<<63 - 1, 1 << 63, 1<<63 + 1, 10000000000000000000, greatest - 1, greatest,
}

// noNumbers are the texts of no number of 64 bits.
var noNumbers = []string{
	"", "00", "01", "007", "-0", "-1", "+0", "+1", "--1", "1-", "1+", "a", "1a", "a1", "0x1", "1e3", "1.0", "1_0", "1,0", "\n", "1\n", "\n1", "\t1",
	"1\t", "1\r", "1\x00", "\x00", "\xff", "1\xff", "\u0661", "\uff11", "/", ":", "hits", "NaN", "inf", "18446744073709551616", "18446744073709551625",
	"20000000000000000000", "99999999999999999999", "100000000000000000000", "018446744073709551615", "-18446744073709551615",
	"340282366920938463463374607431768211456", strings.Repeat("0", 100), strings.Repeat("1", 1000), strings.Repeat("9", 20000),
}

// counts are the counts of a row: written by their fields' places, not names.
func (r row) counts() api.Counts {
	var c api.Counts
	v := reflect.ValueOf(&c).Elem()
	for i, n := range r {
		v.Field(i).SetUint(n)
	}
	return c
}

// rowOf is the row of counts.
func rowOf(c api.Counts) row {
	var r row
	v := reflect.ValueOf(c)
	for i := range r {
		r[i] = v.Field(i).Uint()
	}
	return r
}

// text is the text of a row.
func (r row) text() string {
	text := ""
	for i, name := range inOrder {
		text += " " + name + " " + strconv.FormatUint(r[i], 10)
	}
	return text[1:]
}

// alone has a number at one place, and 0 elsewhere.
func alone(place int, n uint64) row {
	var r row
	r[place] = n
	return r
}

// everywhere has a number at all places.
func everywhere(n uint64) row {
	var r row
	for i := range r {
		r[i] = n
	}
	return r
}

// chanceRows are so many rows without a plain order, with numbers of any
// length; the same ones each time.
func chanceRows(count int) []row {
	list := make([]row, count)
	x := uint64(1)
	for i := range list {
		for place := range list[i] {
			x = x*6364136223846793005 + 1442695040888963407
			list[i][place] = (x ^ x>>31) >> (x >> 58)
		}
	}
	return list
}

// someRows are all zero, each edge alone at each place and everywhere, rising
// and falling rows, and rows without a plain order.
func someRows() []row {
	list := []row{{}, {1, 2, 3, 4, 5, 6, 7, 8, 9, 10}, {10, 9, 8, 7, 6, 5, 4, 3, 2, 1}, {0, greatest, 0, greatest, 1, greatest - 1, 1 << 63, 0, 7, 0}}
	for _, n := range edges {
		for place := range inOrder {
			list = append(list, alone(place, n))
		}
		list = append(list, everywhere(n))
	}
	for shift := range 10 {
		var r row
		for place := range r {
			r[place] = edges[(place+shift)%len(edges)]
		}
		list = append(list, r)
	}
	return append(list, chanceRows(60)...)
}

// round is what is left of a number of any size in 64 bits.
func round(n *big.Int) uint64 {
	return new(big.Int).Mod(n, new(big.Int).Lsh(big.NewInt(1), 64)).Uint64()
}

// sum adds rows up, place by place, in numbers of any size.
func sum(rows ...row) row {
	var r row
	for place := range r {
		total := new(big.Int)
		for _, other := range rows {
			total.Add(total, new(big.Int).SetUint64(other[place]))
		}
		r[place] = round(total)
	}
	return r
}

// less takes one row from another one, place by place.
func less(a, b row) row {
	var r row
	for place := range r {
		r[place] = round(new(big.Int).Sub(new(big.Int).SetUint64(a[place]), new(big.Int).SetUint64(b[place])))
	}
	return r
}

// allCounts are the counts of rows.
func allCounts(rows []row) []api.Counts {
	list := make([]api.Counts, len(rows))
	for i, r := range rows {
		list[i] = r.counts()
	}
	return list
}

// noNames are near to names, or made of them, but none.
func noNames() []string {
	list := []string{
		"", " ", "  ", "\n", "\x00", "\xff", "0", "1", "-", "name", "counts", "hit", "miss", "raise", "step", "target", "test", "cold", "ghosts",
		"HITS", "Hits", "hItS", "hitS", "\u017fteps", "hit\u017f", "mi\u017f\u017fes", "\u210eits", "\uff48\uff49\uff54\uff53", "hits\u0301", "\ufeffhits",
		strings.Repeat("hits", 1000), strings.Repeat(" ", 1000), strings.Join(inOrder, " "), strings.Join(inOrder, ""),
	}
	for _, name := range inOrder {
		list = append(list, strings.ToUpper(name), strings.ToUpper(name[:1])+name[1:], name[:len(name)-1]+strings.ToUpper(name[len(name)-1:]))
		for _, blank := range []string{" ", "  ", "\n", "\t", "\r", "\x00", "\u00a0", ":", "=", "."} {
			list = append(list, blank+name, name+blank, blank+name+blank)
		}
		list = append(list, name+" 1", name+"1", name+"s", name[1:], name[:len(name)-1], name[:1], name[:2]+" "+name[2:])
		for _, other := range inOrder {
			list = append(list, name+" "+other, name+other, name+","+other)
		}
	}
	return list
}

// eachNear tells the texts that are one byte away from s: one less, one other,
// one more.
func eachNear(s string, yield func(string)) {
	for i := range len(s) + 1 {
		for c := range 256 {
			more := string([]byte{byte(c)})
			yield(s[:i] + more + s[i:])
			if i < len(s) {
				yield(s[:i] + more + s[i+1:])
			}
		}
		if i < len(s) {
			yield(s[:i] + s[i+1:])
		}
	}
}

// form is the form of counts' text, but for how great the numbers may be.
var form = regexp.MustCompile(`\A` + strings.Join(inOrder, ` (0|[1-9][0-9]*) `) + ` (0|[1-9][0-9]*)\z`)

// whose says whose text s is.
func whose(s string) (row, bool) {
	found := form.FindStringSubmatch(s)
	if found == nil {
		return row{}, false
	}
	var r row
	for place := range r {
		n, _ := new(big.Int).SetString(found[place+1], 10)
		if !n.IsUint64() {
			return row{}, false
		}
		r[place] = n.Uint64()
	}
	return r, true
}

// checkRead holds Read against the form.
func checkRead(t *testing.T, s string) {
	t.Helper()
	want, isOne := whose(s)
	got, ok := Read(s)
	if rowOf(got) != want || ok != isOne {
		t.Fatalf("Read(%.300q): %v, %v, not %v, %v", s, got, ok, want, isOne)
	}
	if isOne && Print(got) != s {
		t.Fatalf("Read(%q) is printed as %q", s, Print(got))
	}
}

// checkNone says that s is the text of no counts.
func checkNone(t *testing.T, s string) {
	t.Helper()
	if got, ok := Read(s); ok || got != (api.Counts{}) {
		t.Fatalf("Read(%.300q): %v, %v", s, got, ok)
	}
}

// checkNoName says that there is no such name.
func checkNoName(t *testing.T, name string) {
	t.Helper()
	for _, r := range []row{{}, {1, 2, 3, 4, 5, 6, 7, 8, 9, 10}, everywhere(greatest)} {
		c := r.counts()
		if n, ok := Of(c, name); n != 0 || ok {
			t.Fatalf("Of(%v, %.60q): %d, %v", c, name, n, ok)
		}
		for _, n := range []uint64{0, 70, greatest} {
			if got, ok := With(c, name, n); got != c || ok {
				t.Fatalf("With(%v, %.60q, %d): %v, %v", c, name, n, got, ok)
			}
		}
	}
}

// P10.1

func TestNames(t *testing.T) {
	for range 3 {
		if got := Names(); !slices.Equal(got, inOrder) {
			t.Fatalf("Names: %q", got)
		}
	}
}

func TestNamesAreTheFieldsInSmallLetters(t *testing.T) {
	names, fields := Names(), reflect.TypeFor[api.Counts]()
	if len(names) != fields.NumField() {
		t.Fatalf("%d names of %d fields", len(names), fields.NumField())
	}
	for i, name := range names {
		if want := strings.ToLower(fields.Field(i).Name); name != want {
			t.Errorf("name %d: %q, not %q", i, name, want)
		}
	}
}

// All calls are asked again once what Names told is written over, also beyond
// its end, where it has spare room.
func TestNamesMayBeWrittenOver(t *testing.T) {
	first, second := Names(), Names()
	for _, list := range [][]string{first, first[:cap(first)]} {
		for i := range list {
			list[i] = "steps"
		}
	}
	_ = append(first[:0], "a", "b", "c")
	slices.Reverse(first)
	if !slices.Equal(second, inOrder) {
		t.Errorf("what another call told: %q", second)
	}
	TestNames(t)
	c := row{1, 2, 3, 4, 5, 6, 7, 8, 9, 10}.counts()
	for i, name := range inOrder {
		if n, ok := Of(c, name); n != uint64(i+1) || !ok {
			t.Errorf("Of %s: %d, %v", name, n, ok)
		}
		if d, ok := With(c, name, 70); rowOf(d)[i] != 70 || !ok {
			t.Errorf("With %s: %v, %v", name, d, ok)
		}
	}
	if got := Print(c); got != oneToTen {
		t.Errorf("Print: %q", got)
	}
	if got, ok := Read(oneToTen); got != c || !ok {
		t.Errorf("Read: %v, %v", got, ok)
	}
	for _, name := range []string{"", "a", "b", "c"} {
		checkNoName(t, name)
	}
}

func TestOf(t *testing.T) {
	c := api.Counts{Hits: 11, Misses: 12, Raised: 13, Lowered: 14, Pruned: 15, Evicted: 16, Forgotten: 17, Cleared: 18, Ended: 19, Steps: 20}
	for i, name := range []string{"hits", "misses", "raised", "lowered", "pruned", "evicted", "forgotten", "cleared", "ended", "steps"} {
		if n, ok := Of(c, name); n != uint64(i+11) || !ok {
			t.Errorf("Of %s: %d, %v", name, n, ok)
		}
	}
	for _, r := range someRows() {
		for i, name := range inOrder {
			if n, ok := Of(r.counts(), name); n != r[i] || !ok {
				t.Fatalf("Of %s of %v: %d, %v", name, r, n, ok)
			}
		}
	}
}

// A number that is set is set with all nine others, and the counts that were
// handed in, left as they were.
func TestWith(t *testing.T) {
	for _, r := range someRows() {
		for i, name := range inOrder {
			for _, n := range append([]uint64{r[i], r[(i+1)%10]}, edges...) {
				c, want := r.counts(), r
				want[i] = n
				if got, ok := With(c, name, n); rowOf(got) != want || !ok {
					t.Fatalf("With(%v, %s, %d): %v, %v", r, name, n, got, ok)
				}
				if rowOf(c) != r {
					t.Fatalf("With %s changed what was handed in: %v", name, c)
				}
			}
		}
	}
}

func TestWithByFields(t *testing.T) {
	set := func(name string) api.Counts {
		c, ok := With(api.Counts{}, name, 5)
		if !ok {
			t.Errorf("With %s is false", name)
		}
		return c
	}
	for name, want := range map[string]api.Counts{
		"hits": {Hits: 5}, "misses": {Misses: 5}, "raised": {Raised: 5}, "lowered": {Lowered: 5}, "pruned": {Pruned: 5},
		"evicted": {Evicted: 5}, "forgotten": {Forgotten: 5}, "cleared": {Cleared: 5}, "ended": {Ended: 5}, "steps": {Steps: 5},
	} {
		if got := set(name); got != want {
			t.Errorf("With %s: %v", name, got)
		}
	}
}

func TestWithAndOfAgree(t *testing.T) {
	for _, r := range someRows() {
		var c api.Counts
		for i, name := range inOrder {
			c, _ = With(c, name, 3)
			c, _ = With(c, name, r[i])
			if n, ok := Of(c, name); n != r[i] || !ok {
				t.Fatalf("Of %s: %d, %v, not %d", name, n, ok, r[i])
			}
		}
		if rowOf(c) != r {
			t.Fatalf("set one by one: %v, not %v", c, r)
		}
	}
}

func TestOfAndWithOfNoName(t *testing.T) {
	for _, name := range noNames() {
		checkNoName(t, name)
	}
}

func TestOfAndWithOfNearNames(t *testing.T) {
	c := row{1, 2, 3, 4, 5, 6, 7, 8, 9, 10}.counts()
	for _, name := range inOrder {
		eachNear(name, func(s string) {
			place := slices.Index(inOrder, s)
			n, isOne := Of(c, s)
			if n != uint64(place+1) || isOne != (place >= 0) {
				t.Fatalf("Of(%q): %d, %v", s, n, isOne)
			}
			want := rowOf(c)
			if place >= 0 {
				want[place] = 70
			}
			if got, ok := With(c, s, 70); rowOf(got) != want || ok != isOne {
				t.Fatalf("With(%q): %v, %v", s, got, ok)
			}
		})
	}
}

// P10.2

func TestAddOfNothing(t *testing.T) {
	for _, got := range []api.Counts{Add(), Add(nil...), Add([]api.Counts{}...), Add(make([]api.Counts, 0, 3)...)} {
		if got != (api.Counts{}) {
			t.Errorf("Add of nothing: %v", got)
		}
	}
}

func TestAddOfOne(t *testing.T) {
	for _, r := range someRows() {
		if got := Add(r.counts()); rowOf(got) != r {
			t.Fatalf("Add(%v): %v", r, got)
		}
	}
}

func TestAddOfTwo(t *testing.T) {
	a := api.Counts{Hits: 1, Misses: 2, Raised: 3, Lowered: 4, Pruned: 5, Evicted: 6, Forgotten: 7, Cleared: 8, Ended: 9, Steps: 10}
	b := api.Counts{Hits: 100, Misses: 200, Raised: 300, Lowered: 400, Pruned: 500, Evicted: 600, Forgotten: 700, Cleared: 800, Ended: 900, Steps: 1000}
	want := api.Counts{Hits: 101, Misses: 202, Raised: 303, Lowered: 404, Pruned: 505, Evicted: 606, Forgotten: 707, Cleared: 808, Ended: 909, Steps: 1010}
	if got := Add(a, b); got != want {
		t.Errorf("Add: %v", got)
	}
	rows := someRows()
	for _, a := range rows {
		for _, b := range rows {
			if got := Add(a.counts(), b.counts()); rowOf(got) != sum(a, b) {
				t.Fatalf("Add(%v, %v): %v, not %v", a, b, got, sum(a, b))
			}
		}
	}
}

func TestAddOfMany(t *testing.T) {
	rows := someRows()
	for many := range rows {
		for _, list := range [][]row{rows[:many], rows[many:], slices.Repeat(rows[many:many+1], many%9)} {
			if got := Add(allCounts(list)...); rowOf(got) != sum(list...) {
				t.Fatalf("Add of %d: %v, not %v", len(list), got, sum(list...))
			}
		}
	}
	list := chanceRows(5000)
	if got := Add(allCounts(list)...); rowOf(got) != sum(list...) {
		t.Errorf("Add of %d: %v, not %v", len(list), got, sum(list...))
	}
}

func TestAddInAnyOrder(t *testing.T) {
	list := []row{{1, 2, 3, 4, 5, 6, 7, 8, 9, 10}, everywhere(greatest), alone(4, 70), chanceRows(1)[0], everywhere(1 << 63), {}}
	want := sum(list...)
	var order func(done int)
	order = func(done int) {
		if done == len(list) {
			if got := Add(allCounts(list)...); rowOf(got) != want {
				t.Fatalf("Add of %v: %v, not %v", list, got, want)
			}
			return
		}
		for i := done; i < len(list); i++ {
			list[done], list[i] = list[i], list[done]
			order(done + 1)
			list[done], list[i] = list[i], list[done]
		}
	}
	order(0)
}

func TestAddOfSums(t *testing.T) {
	list := allCounts(someRows())
	whole := Add(list...)
	for part := range list {
		if got := Add(Add(list[:part]...), Add(list[part:]...)); got != whole {
			t.Fatalf("parted at %d: %v, not %v", part, got, whole)
		}
	}
}

func TestSumsGoRound(t *testing.T) {
	top, one := everywhere(greatest).counts(), everywhere(1).counts()
	for what, c := range map[string][2]api.Counts{
		"the greatest and 1":            {Add(top, one), {}},
		"1 and the greatest":            {Add(one, top), {}},
		"the greatest twice":            {Add(top, top), everywhere(greatest - 1).counts()},
		"the greatest, 1 and 1":         {Add(top, one, one), one},
		"the half twice":                {Add(everywhere(1<<63).counts(), everywhere(1<<63).counts()), {}},
		"the half three times":          {Add(slices.Repeat([]api.Counts{everywhere(1 << 63).counts()}, 3)...), everywhere(1 << 63).counts()},
		"the greatest, 300 times":       {Add(slices.Repeat([]api.Counts{top}, 300)...), everywhere(greatest - 299).counts()},
		"of hits alone":                 {Add(top, alone(0, 1).counts()), less(everywhere(greatest), alone(0, greatest)).counts()},
		"0 less 1":                      {Since(api.Counts{}, one), top},
		"0 less the greatest":           {Since(api.Counts{}, top), one},
		"1 less the greatest":           {Since(one, top), everywhere(2).counts()},
		"0 less 1, of steps alone":      {Since(api.Counts{}, alone(9, 1).counts()), alone(9, greatest).counts()},
		"the greatest less 1":           {Since(top, one), everywhere(greatest - 1).counts()},
		"the half less the half and 1":  {Since(everywhere(1<<63).counts(), everywhere(1<<63+1).counts()), top},
		"0 less the half":               {Since(api.Counts{}, everywhere(1<<63).counts()), everywhere(1 << 63).counts()},
		"no place lends to another one": {Since(alone(3, 1).counts(), alone(4, 1).counts()), row{3: 1, 4: greatest}.counts()},
	} {
		if c[0] != c[1] {
			t.Errorf("%s: %v, not %v", what, c[0], c[1])
		}
	}
}

// What is handed in is left as it was, the spare room behind it, too.
func TestAddChangesNothingOfWhatItIsGiven(t *testing.T) {
	rows := chanceRows(9)
	room := allCounts(rows)
	for most := range room {
		for _, list := range [][]api.Counts{room[:most], room[most:], room[most : most+1]} {
			Add(list...)
			if !slices.Equal(room, allCounts(rows)) {
				t.Fatalf("Add of %d changed what was handed in", len(list))
			}
		}
	}
}

func TestSince(t *testing.T) {
	a := api.Counts{Hits: 100, Misses: 200, Raised: 300, Lowered: 400, Pruned: 500, Evicted: 600, Forgotten: 700, Cleared: 800, Ended: 900, Steps: 1000}
	b := api.Counts{Hits: 1, Misses: 2, Raised: 3, Lowered: 4, Pruned: 5, Evicted: 6, Forgotten: 7, Cleared: 8, Ended: 9, Steps: 10}
	want := api.Counts{Hits: 99, Misses: 198, Raised: 297, Lowered: 396, Pruned: 495, Evicted: 594, Forgotten: 693, Cleared: 792, Ended: 891, Steps: 990}
	if got := Since(a, b); got != want {
		t.Errorf("Since: %v", got)
	}
	rows := someRows()
	for _, a := range rows {
		for _, b := range rows {
			before, after := b.counts(), a.counts()
			if got := Since(after, before); rowOf(got) != less(a, b) {
				t.Fatalf("Since(%v, %v): %v, not %v", a, b, got, less(a, b))
			}
			if rowOf(before) != b || rowOf(after) != a {
				t.Fatalf("Since changed what was handed in: %v, %v", after, before)
			}
		}
	}
}

func TestSinceOfItselfAndOfNothing(t *testing.T) {
	for _, r := range someRows() {
		c := r.counts()
		if got := Since(c, c); got != (api.Counts{}) {
			t.Fatalf("Since of %v and itself: %v", r, got)
		}
		if got := Since(c, api.Counts{}); got != c {
			t.Fatalf("Since of %v and nothing: %v", r, got)
		}
		if got := Add(c, Since(api.Counts{}, c)); got != (api.Counts{}) {
			t.Fatalf("%v, and 0 less it: %v", r, got)
		}
	}
}

// P10.3

func TestPrint(t *testing.T) {
	for want, c := range map[string]api.Counts{
		"hits 0 misses 0 raised 0 lowered 0 pruned 0 evicted 0 forgotten 0 cleared 0 ended 0 steps 0":  {},
		"hits 3 misses 0 raised 0 lowered 0 pruned 0 evicted 0 forgotten 0 cleared 0 ended 0 steps 0":  {Hits: 3},
		"hits 0 misses 3 raised 0 lowered 0 pruned 0 evicted 0 forgotten 0 cleared 0 ended 0 steps 0":  {Misses: 3},
		"hits 0 misses 0 raised 3 lowered 0 pruned 0 evicted 0 forgotten 0 cleared 0 ended 0 steps 0":  {Raised: 3},
		"hits 0 misses 0 raised 0 lowered 3 pruned 0 evicted 0 forgotten 0 cleared 0 ended 0 steps 0":  {Lowered: 3},
		"hits 0 misses 0 raised 0 lowered 0 pruned 3 evicted 0 forgotten 0 cleared 0 ended 0 steps 0":  {Pruned: 3},
		"hits 0 misses 0 raised 0 lowered 0 pruned 0 evicted 3 forgotten 0 cleared 0 ended 0 steps 0":  {Evicted: 3},
		"hits 0 misses 0 raised 0 lowered 0 pruned 0 evicted 0 forgotten 3 cleared 0 ended 0 steps 0":  {Forgotten: 3},
		"hits 0 misses 0 raised 0 lowered 0 pruned 0 evicted 0 forgotten 0 cleared 3 ended 0 steps 0":  {Cleared: 3},
		"hits 0 misses 0 raised 0 lowered 0 pruned 0 evicted 0 forgotten 0 cleared 0 ended 3 steps 0":  {Ended: 3},
		"hits 0 misses 0 raised 0 lowered 0 pruned 0 evicted 0 forgotten 0 cleared 0 ended 0 steps 3":  {Steps: 3},
		"hits 0 misses 0 raised 0 lowered 0 pruned 0 evicted 0 forgotten 0 cleared 0 ended 0 steps 30": {Steps: 30},
		oneToTen: {Hits: 1, Misses: 2, Raised: 3, Lowered: 4, Pruned: 5, Evicted: 6, Forgotten: 7, Cleared: 8, Ended: 9, Steps: 10},
		"hits 18446744073709551615 misses 18446744073709551615 raised 18446744073709551615 lowered 18446744073709551615 " +
			"pruned 18446744073709551615 evicted 18446744073709551615 forgotten 18446744073709551615 cleared 18446744073709551615 " +
			"ended 18446744073709551615 steps 18446744073709551615": everywhere(greatest).counts(),
	} {
		if got := Print(c); got != want {
			t.Errorf("Print(%v): %q, not %q", c, got, want)
		}
		if got, ok := Read(want); got != c || !ok {
			t.Errorf("Read(%q): %v, %v", want, got, ok)
		}
	}
}

func TestPrintOfSomeCounts(t *testing.T) {
	for _, r := range append(someRows(), chanceRows(3000)...) {
		c := r.counts()
		if got := Print(c); got != r.text() {
			t.Fatalf("Print(%v): %q, not %q", r, got, r.text())
		}
		if rowOf(c) != r {
			t.Fatalf("Print changed what was handed in: %v", c)
		}
	}
}

func TestReadOfWhatIsPrinted(t *testing.T) {
	for _, r := range append(someRows(), chanceRows(3000)...) {
		if got, ok := Read(r.text()); rowOf(got) != r || !ok {
			t.Fatalf("Read(%q): %v, %v", r.text(), got, ok)
		}
	}
}

// readRows are rows whose texts are spoilt in all ways.
func readRows() []row {
	return []row{{}, {1, 2, 3, 4, 5, 6, 7, 8, 9, 10}, everywhere(7), everywhere(greatest)}
}

func TestReadOfOtherTexts(t *testing.T) {
	for _, s := range []string{
		"", " ", "\n", "\x00", "\xff", "0", "hits", "hits ", "hits 1", "hits 1 ", "steps 1", "0 0 0 0 0 0 0 0 0 0",
		strings.Join(inOrder, " "), strings.Join(inOrder, " 1 "), strings.Repeat(" ", 18), strings.Repeat(" ", 19), strings.Repeat(" ", 20),
		strings.Repeat("0 ", 19) + "0", strings.Repeat("hits 0 ", 10)[:69], strings.Repeat("hits 0 ", 20000), strings.Repeat(" ", 100000),
		strings.Repeat("9", 100000), strings.Repeat(oneToTen, 2), strings.Repeat(oneToTen+" ", 2000), strings.Repeat(oneToTen+"\n", 3),
	} {
		checkNone(t, s)
	}
	for _, r := range readRows() {
		s := r.text()
		for _, spoilt := range []string{
			" " + s, s + " ", " " + s + " ", "  " + s, s + "  ", s + "\n", "\n" + s, "\t" + s, s + "\t", s + "\x00", "\x00" + s, "\ufeff" + s, s + s,
			s + " " + s, s + "\n" + s, s + " 1", s + " steps 1", s + " 1 steps", "1 " + s, "hits 1 " + s, s + " more 1", s + " more", "more 1 " + s,
			s + ",", s + ".", s + ";", "{" + s + "}", `"` + s + `"`, strings.ToUpper(s), strings.ToTitle(s), strings.ToUpper(s[:1]) + s[1:],
			strings.ReplaceAll(s, " ", ""), strings.ReplaceAll(s, " ", ","), strings.ReplaceAll(s, " ", "\n"), strings.ReplaceAll(s, " ", "  "),
			strings.Join(slices.Collect(backwards(s)), " "),
		} {
			checkNone(t, spoilt)
		}
	}
}

// backwards goes through the words of s from its last one on.
func backwards(s string) func(yield func(string) bool) {
	return func(yield func(string) bool) {
		for _, word := range slices.Backward(strings.Split(s, " ")) {
			if !yield(word) {
				return
			}
		}
	}
}

func TestReadOfCutTexts(t *testing.T) {
	for _, r := range readRows() {
		s := r.text()
		for i := range s {
			checkRead(t, s[:i])
			checkRead(t, s[i:])
			checkRead(t, s[:i]+s)
			checkRead(t, s[i:]+s)
			for k := i + 1; k <= len(s); k++ {
				checkRead(t, s[:i]+s[k:])
			}
		}
	}
}

func TestReadOfNearTexts(t *testing.T) {
	for _, r := range readRows() {
		eachNear(r.text(), func(s string) { checkRead(t, s) })
	}
}

// Each word of a text is taken out, is there twice, stands elsewhere, or is
// another one.
func TestReadOfOtherWords(t *testing.T) {
	for _, r := range readRows() {
		words := strings.Split(r.text(), " ")
		for i := range words {
			checkNone(t, strings.Join(slices.Delete(slices.Clone(words), i, i+1), " "))
			checkNone(t, strings.Join(slices.Insert(slices.Clone(words), i, words[i]), " "))
			checkNone(t, strings.Join(slices.Insert(slices.Clone(words), i, ""), " "))
			if i+2 <= len(words) {
				checkNone(t, strings.Join(slices.Delete(slices.Clone(words), i, i+2), " "))
				checkNone(t, strings.Join(slices.Insert(slices.Clone(words), i, words[i], words[i+1]), " "))
			}
			for _, word := range slices.Concat(noNumbers, noNames(), inOrder, []string{"0", "1", "10", "18446744073709551615"}) {
				other := slices.Clone(words)
				other[i] = word
				checkRead(t, strings.Join(other, " "))
			}
		}
	}
}

func TestReadOfNamesInAnotherOrder(t *testing.T) {
	for _, r := range readRows() {
		words := strings.Split(r.text(), " ")
		for i := range 20 {
			for k := range i {
				other := slices.Clone(words)
				other[i], other[k] = other[k], other[i]
				checkRead(t, strings.Join(other, " "))
				if i < 10 {
					other = slices.Clone(words)
					for word := range 2 {
						other[2*i+word], other[2*k+word] = words[2*k+word], words[2*i+word]
					}
					checkNone(t, strings.Join(other, " "))
				}
			}
		}
		for i := 1; i < 20; i++ {
			checkNone(t, strings.Join(slices.Concat(words[i:], words[:i]), " "))
		}
	}
}

func TestReadOfOtherBlanks(t *testing.T) {
	for _, r := range readRows() {
		words := strings.Split(r.text(), " ")
		for i := 1; i < len(words); i++ {
			for _, blank := range []string{"", "  ", "   ", "\t", "\n", "\r", "\v", "\f", "\x00", "\u00a0", "\u2003", " \n", "\n ", ",", ", ", "=", ": ", "-", " -", " +", "_"} {
				checkNone(t, strings.Join(words[:i], " ")+blank+strings.Join(words[i:], " "))
			}
		}
	}
}

// Around the greatest number texts are read, or not, at each place.
func TestReadAroundTheGreatest(t *testing.T) {
	top := new(big.Int).SetUint64(greatest)
	for place := range inOrder {
		words := strings.Split(oneToTen, " ")
		for i := range int64(41) {
			words[2*place+1] = new(big.Int).Add(top, big.NewInt(i-20)).String()
			s := strings.Join(words, " ")
			got, ok := Read(s)
			if inside := i <= 20; ok != inside || !inside && got != (api.Counts{}) || inside && rowOf(got)[place] != greatest-uint64(20-i) {
				t.Fatalf("Read(%q): %v, %v", s, got, ok)
			}
			checkRead(t, s)
		}
	}
}

// P10.4

func TestSinceOfASumIsWhatWasAdded(t *testing.T) {
	rows := someRows()
	for _, first := range rows {
		for _, second := range rows {
			a, b := first.counts(), second.counts()
			if got := Since(Add(a, b), b); got != a {
				t.Fatalf("Since(Add(a, b), b) of %v, %v: %v", a, b, got)
			}
			if got := Add(Since(a, b), b); got != a {
				t.Fatalf("Add(Since(a, b), b) of %v, %v: %v", a, b, got)
			}
		}
	}
}

func TestWhatIsPrintedIsReadBack(t *testing.T) {
	texts := map[string]row{}
	for _, r := range append(someRows(), chanceRows(5000)...) {
		s := Print(r.counts())
		if got, ok := Read(s); rowOf(got) != r || !ok {
			t.Fatalf("%v is printed as %q, which is read as %v, %v", r, s, got, ok)
		}
		if other, has := texts[s]; has && other != r {
			t.Fatalf("%q is printed of %v and of %v", s, r, other)
		}
		texts[s] = r
	}
}

// FuzzRead holds Read against the form, and works the counts that are read.
func FuzzRead(f *testing.F) {
	for _, r := range someRows() {
		f.Add(r.text())
	}
	for _, s := range []string{"", "hits 3", oneToTen + " ", " " + oneToTen, oneToTen[:len(oneToTen)-3]} {
		f.Add(s)
	}
	f.Fuzz(func(t *testing.T, s string) {
		checkRead(t, s)
		c, _ := Read(s)
		if got := Since(Add(c, c), c); got != c {
			t.Fatalf("Since(Add(c, c), c): %v, not %v", got, c)
		}
		for i, name := range inOrder {
			if n, ok := Of(c, name); n != rowOf(c)[i] || !ok {
				t.Fatalf("Of(%v, %s): %d, %v", c, name, n, ok)
			}
		}
	})
}
