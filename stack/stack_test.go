package stack

import (
	"math"
	"slices"
	"strconv"
	"strings"
	"testing"

	"hutch/api"
)

const greatest = uint64(math.MaxUint64)

// far are numbers of which none is good anywhere, though some would be if only
// their lowest bits were looked at.
var far = []int{
	math.MinInt, math.MinInt + 1, math.MinInt + 2, -1<<32 + 1, -1 << 32, math.MinInt32, -513, -256, -2, -1,
	1 << 16, 1<<16 + 1, math.MaxInt32, 1 << 32, 1<<32 + 1, 1<<32 + 2, 1 << 62, math.MaxInt - 1, math.MaxInt,
}

func lirs(most, quota, ghosts int) api.Config {
	return api.Config{Policy: api.Lirs, Cap: most, Quota: quota, Ghosts: ghosts}
}

// mayBe says whether a config may be and is of LIRS, by the words of the
// document alone.
func mayBe(c api.Config) bool {
	return c.Policy == 1 && c.Cap >= 2 && c.Cap <= 256 && c.Quota >= 1 && c.Quota < c.Cap && c.Ghosts >= 0 && c.Ghosts <= 512
}

// badConfigs are configs that may not be, or are of another policy, each wrong
// by one number alone, but the first one.
func badConfigs() []api.Config {
	list := []api.Config{
		{}, lirs(1, 1, 0), lirs(257, 1, 0), lirs(3, 0, 2), lirs(3, 3, 2), lirs(3, 4, 2), lirs(256, 256, 0), lirs(3, 1, 513), lirs(3, 1, -1), lirs(2, 2, 0), lirs(0, 1, 0),
	}
	for _, p := range append([]int{0, 2, 3, 4, 5, 255, 257}, far...) {
		list = append(list, api.Config{Policy: api.Policy(p), Cap: 3, Quota: 1, Ghosts: 2})
	}
	for _, n := range far {
		list = append(list, lirs(n, 1, 2), lirs(3, n, 2), lirs(3, 1, n))
	}
	return list
}

// goodConfigs are configs of LIRS that may be, with all edges.
func goodConfigs() []api.Config {
	return []api.Config{
		lirs(2, 1, 0), lirs(2, 1, 1), lirs(2, 1, 512), lirs(3, 1, 2), lirs(3, 2, 0), lirs(8, 2, 16), lirs(255, 254, 511), lirs(256, 1, 0), lirs(256, 255, 512), lirs(256, 128, 100),
	}
}

// stateOf reads a state from a text: the stack from the top on (a letter for
// the kind and the key), the queue, the ghosts, with a stroke between.
func stateOf(c api.Config, text string) api.State {
	parts := strings.Split(text, "|")
	s := api.State{Config: c, Queue: keysIn(parts[1]), Ghosts: keysIn(parts[2])}
	for _, w := range strings.Fields(parts[0]) {
		kind := api.Kind(strings.IndexByte(" hcg", w[0]))
		s.Pages = append(s.Pages, api.Page{Key: keysIn(w[1:])[0], Kind: kind})
	}
	return s
}

func keysIn(text string) []uint64 {
	var keys []uint64
	for _, w := range strings.Fields(text) {
		k, err := strconv.ParseUint(w, 10, 64)
		if err != nil {
			panic(err)
		}
		keys = append(keys, k)
	}
	return keys
}

// textOf tells the lists of a state as stateOf reads them.
func textOf(s api.State) string {
	var words []string
	for _, p := range s.Pages {
		letter := "?"
		if p.Kind >= 1 && p.Kind <= 3 {
			letter = " hcg"[p.Kind : p.Kind+1]
		}
		words = append(words, letter+strconv.FormatUint(p.Key, 10))
	}
	words = append(words, "|")
	for _, k := range s.Queue {
		words = append(words, strconv.FormatUint(k, 10))
	}
	words = append(words, "|")
	for _, k := range s.Ghosts {
		words = append(words, strconv.FormatUint(k, 10))
	}
	return strings.Join(words, " ")
}

// same says whether two states are one; a list without an element may be nil.
func same(a, b api.State) bool {
	return a.Config == b.Config && a.Target == b.Target && a.Cold == b.Cold && a.Test == b.Test && a.Counts == b.Counts &&
		slices.Equal(a.Pages, b.Pages) && slices.Equal(a.Queue, b.Queue) && slices.Equal(a.Ghosts, b.Ghosts)
}

// copyOf makes a state whose lists share nothing with those of another one.
func copyOf(s api.State) api.State {
	s.Pages = append([]api.Page{}, s.Pages...)
	s.Queue = append([]uint64{}, s.Queue...)
	s.Ghosts = append([]uint64{}, s.Ghosts...)
	return s
}

// model is LIRS told apart from the package: the stack stands from the bottom
// on, and how each key stands is looked up in sets.
type model struct {
	config            api.Config
	stack             []uint64
	hot, cold, ghosts []uint64
	counts            api.Counts
}

func has(keys []uint64, key uint64) bool { return slices.Index(keys, key) >= 0 }

func cut(keys []uint64, key uint64) []uint64 {
	var left []uint64
	for _, k := range keys {
		if k != key {
			left = append(left, k)
		}
	}
	return left
}

func modelOf(s api.State) *model {
	m := &model{config: s.Config, counts: s.Counts, cold: slices.Clone(s.Queue), ghosts: slices.Clone(s.Ghosts)}
	for _, p := range s.Pages {
		m.stack = append([]uint64{p.Key}, m.stack...)
		if p.Kind == api.Hot {
			m.hot = append(m.hot, p.Key)
		}
	}
	return m
}

func (m *model) state() api.State {
	s := api.State{Config: m.config, Queue: slices.Clone(m.cold), Ghosts: slices.Clone(m.ghosts), Counts: m.counts}
	for i := len(m.stack) - 1; i >= 0; i-- {
		p := api.Page{Key: m.stack[i], Kind: api.Gone}
		if has(m.hot, p.Key) {
			p.Kind = api.Hot
		} else if has(m.cold, p.Key) {
			p.Kind = api.Cold
		}
		s.Pages = append(s.Pages, p)
	}
	return s
}

func (m *model) kept(key uint64) bool { return has(m.hot, key) || has(m.cold, key) }

func (m *model) free() bool { return len(m.hot) < m.config.Cap-m.config.Quota }

func (m *model) top(key uint64) { m.stack = append(cut(m.stack, key), key) }

func (m *model) prune() {
	for len(m.stack) > 0 && !has(m.hot, m.stack[0]) {
		m.ghosts = cut(m.ghosts, m.stack[0])
		m.stack = m.stack[1:]
		m.counts.Pruned++
	}
}

func (m *model) lower() {
	for len(m.hot) > m.config.Cap-m.config.Quota {
		bottom := m.stack[0]
		m.stack = m.stack[1:]
		m.hot = cut(m.hot, bottom)
		m.cold = append(m.cold, bottom)
		m.counts.Lowered++
		m.prune()
	}
}

func (m *model) makeHot(key uint64) {
	m.cold, m.ghosts, m.hot = cut(m.cold, key), cut(m.ghosts, key), append(m.hot, key)
	m.top(key)
	m.counts.Raised++
	m.lower()
}

func (m *model) makeCold(key uint64) {
	m.cold = append(cut(m.cold, key), key)
	m.top(key)
}

func (m *model) spill(most int) []uint64 {
	var evicted []uint64
	for len(m.hot)+len(m.cold) > most {
		front := m.cold[0]
		m.cold = m.cold[1:]
		evicted = append(evicted, front)
		m.counts.Evicted++
		if has(m.stack, front) {
			m.ghosts = append(m.ghosts, front)
		}
	}
	return evicted
}

func (m *model) trim() {
	for len(m.ghosts) > m.config.Ghosts {
		m.stack = cut(m.stack, m.ghosts[0])
		m.ghosts = m.ghosts[1:]
		m.counts.Forgotten++
	}
}

func (m *model) touch(key uint64) bool {
	if !m.kept(key) {
		return false
	}
	m.counts.Hits++
	if has(m.hot, key) {
		m.top(key)
	} else if has(m.stack, key) || m.free() {
		m.makeHot(key)
	} else {
		m.makeCold(key)
	}
	m.prune()
	return true
}

func (m *model) admit(key uint64) ([]uint64, bool) {
	if m.kept(key) {
		return nil, false
	}
	m.counts.Misses++
	gone := has(m.ghosts, key)
	m.stack, m.ghosts = cut(m.stack, key), cut(m.ghosts, key)
	evicted := m.spill(m.config.Cap - 1)
	m.trim()
	if gone || m.free() {
		m.makeHot(key)
	} else {
		m.makeCold(key)
	}
	m.prune()
	return evicted, true
}

func (m *model) drop(key uint64) bool {
	was := m.kept(key)
	m.stack, m.hot, m.cold, m.ghosts = cut(m.stack, key), cut(m.hot, key), cut(m.cold, key), cut(m.ghosts, key)
	m.prune()
	return was
}

func (m *model) resize(c api.Config) []uint64 {
	m.config = c
	m.lower()
	evicted := m.spill(c.Cap)
	m.trim()
	return evicted
}

// isRight says whether a state is right, rule by rule, by the words of the
// document, with no eye on how long it takes.
func isRight(s api.State) bool {
	var stack, hot, cold, gone []uint64
	for _, p := range s.Pages {
		if p.Test || p.Mark {
			return false
		}
		stack = append(stack, p.Key)
		switch p.Kind {
		case 1:
			hot = append(hot, p.Key)
		case 2:
			cold = append(cold, p.Key)
		case 3:
			gone = append(gone, p.Key)
		default:
			return false
		}
	}
	for _, keys := range [][]uint64{stack, s.Queue, s.Ghosts} {
		for i, k := range keys {
			if has(keys[:i], k) {
				return false
			}
		}
	}
	for _, k := range s.Queue {
		if has(stack, k) && !has(cold, k) {
			return false
		}
	}
	for _, k := range cold {
		if !has(s.Queue, k) {
			return false
		}
	}
	if slices.ContainsFunc(s.Ghosts, func(k uint64) bool { return !has(gone, k) }) || slices.ContainsFunc(gone, func(k uint64) bool { return !has(s.Ghosts, k) }) {
		return false
	}
	if len(stack) > 0 && !has(hot, stack[len(stack)-1]) {
		return false
	}
	return mayBe(s.Config) && s.Target == 0 && s.Cold == 0 && s.Test == 0 &&
		len(hot) <= s.Config.Cap-s.Config.Quota && len(hot)+len(s.Queue) <= s.Config.Cap && len(s.Ghosts) <= s.Config.Ghosts
}

// act is something that is done with a state.
type act struct {
	name   string
	key    uint64
	config api.Config
}

func (a act) String() string {
	if a.name == "resize" {
		return "resize " + strconv.Itoa(a.config.Cap) + " " + strconv.Itoa(a.config.Quota) + " " + strconv.Itoa(a.config.Ghosts)
	}
	return a.name + " " + strconv.FormatUint(a.key, 10)
}

// told is all that a call may answer.
type told struct {
	state   api.State
	evicted []uint64
	ok      bool
	errno   api.Errno
}

func (a told) same(b told) bool {
	return same(a.state, b.state) && slices.Equal(a.evicted, b.evicted) && a.ok == b.ok && a.errno == b.errno
}

// call does it by the package, with nothing looked at.
func call(s api.State, a act) told {
	var r told
	switch a.name {
	case "touch":
		r.state, r.ok = Touch(s, a.key)
	case "admit":
		r.state, r.evicted, r.ok = Admit(s, a.key)
	case "drop":
		r.state, r.ok = Drop(s, a.key)
	case "resize":
		r.state, r.evicted, r.errno = Resize(s, a.config)
	default:
		panic(a.name)
	}
	return r
}

// should tells what it ought to answer.
func should(s api.State, a act) told {
	if !isRight(s) {
		if a.name == "resize" {
			return told{state: s, errno: api.ErrState}
		}
		return told{}
	}
	m, r := modelOf(s), told{}
	switch a.name {
	case "touch":
		r.ok = m.touch(a.key)
	case "admit":
		r.evicted, r.ok = m.admit(a.key)
	case "drop":
		r.ok = m.drop(a.key)
	case "resize":
		if !mayBe(a.config) {
			return told{state: s, errno: api.ErrConfig}
		}
		r.evicted = m.resize(a.config)
	}
	r.state = m.state()
	return r
}

// roomy makes a state like another one, whose lists have room to spare, which
// is written full.
func roomy(s api.State) api.State {
	pages := append(append([]api.Page{}, s.Pages...), api.Page{Key: 91, Kind: 77, Test: true}, api.Page{Key: 92, Kind: 78, Mark: true})
	queue := append(append([]uint64{}, s.Queue...), 93, 94)
	ghosts := append(append([]uint64{}, s.Ghosts...), 95, 96)
	s.Pages, s.Queue, s.Ghosts = pages[:len(s.Pages)], queue[:len(s.Queue)], ghosts[:len(s.Ghosts)]
	return s
}

// whole tells a state's lists with all the room that they have.
func whole(s api.State) api.State {
	s.Pages, s.Queue, s.Ghosts = s.Pages[:cap(s.Pages)], s.Queue[:cap(s.Queue)], s.Ghosts[:cap(s.Ghosts)]
	return s
}

// smear writes over all that was told, spare room and all.
func smear(r told) {
	s := whole(r.state)
	for i := range s.Pages {
		s.Pages[i] = api.Page{Key: 81, Kind: 82, Test: true, Mark: true}
	}
	for _, keys := range [][]uint64{s.Queue, s.Ghosts, r.evicted[:cap(r.evicted)]} {
		for i := range keys {
			keys[i] = 83
		}
	}
}

// apart looks whether two of the lists that were told share memory.
func apart(t *testing.T, r told) {
	t.Helper()
	queue, ghosts, evicted := r.state.Queue[:cap(r.state.Queue)], r.state.Ghosts[:cap(r.state.Ghosts)], r.evicted[:cap(r.evicted)]
	for i := range queue {
		queue[i] = 1
	}
	for i := range ghosts {
		ghosts[i] = 2
	}
	for i := range evicted {
		evicted[i] = 3
	}
	for i, keys := range [][]uint64{queue, ghosts, evicted} {
		for _, k := range keys {
			if k != uint64(i+1) {
				t.Fatal("two lists of one answer share memory")
			}
		}
	}
}

// do does it, holds what is told against what ought to be, and looks whether
// the state that was handed in stands as it stood.
func do(t *testing.T, s api.State, a act) told {
	t.Helper()
	want := should(s, a)
	given := roomy(s)
	stood := copyOf(whole(given))
	got := call(given, a)
	if !got.same(want) {
		t.Fatalf("%v of %s (config %v):\n%s evicted %v ok %v errno %d counts %v\nnot %s evicted %v ok %v errno %d counts %v", a, textOf(s), s.Config,
			textOf(got.state), got.evicted, got.ok, got.errno, got.state.Counts, textOf(want.state), want.evicted, want.ok, want.errno, want.state.Counts)
	}
	if isRight(s) && !(isRight(got.state) && Right(got.state)) {
		t.Fatalf("%v of %s: %s is not right", a, textOf(s), textOf(got.state))
	}
	kept := told{state: copyOf(got.state), evicted: slices.Clone(got.evicted), ok: got.ok, errno: got.errno}
	smear(got)
	if !same(whole(given), stood) {
		t.Fatalf("%v of %s: what was handed in is changed", a, textOf(s))
	}
	apart(t, got)
	return kept
}

// noted are counts that tell which of them was changed.
var noted = api.Counts{Hits: 100, Misses: 200, Raised: 300, Lowered: 400, Pruned: 500, Evicted: 600, Forgotten: 700, Cleared: 800, Ended: 900, Steps: 1000}

// more tells by how much counts grew beyond those noted, by their letters.
func more(c api.Counts) string {
	text := ""
	for _, n := range []struct {
		letter   string
		now, was uint64
	}{
		{"h", c.Hits, 100}, {"m", c.Misses, 200}, {"r", c.Raised, 300}, {"l", c.Lowered, 400}, {"p", c.Pruned, 500}, {"e", c.Evicted, 600}, {"f", c.Forgotten, 700},
		{"CLEARED", c.Cleared, 800}, {"ENDED", c.Ended, 900}, {"STEPS", c.Steps, 1000},
	} {
		for range n.now - n.was {
			text += n.letter
		}
	}
	return text
}

// row is a state, an act, and what is told of it.
type row struct {
	about   string
	config  api.Config
	state   string
	act     act
	want    string
	evicted string
	ok      bool
	grows   string
}

func (r row) run(t *testing.T) {
	t.Helper()
	s := stateOf(r.config, r.state)
	s.Counts = noted
	got := do(t, s, r.act)
	config := r.config
	if r.act.name == "resize" {
		config = r.act.config
	}
	want := stateOf(config, r.want)
	want.Counts = got.state.Counts
	if !same(got.state, want) || !slices.Equal(got.evicted, keysIn(r.evicted)) || got.ok != r.ok || got.errno != api.OK || more(got.state.Counts) != r.grows {
		t.Errorf("%s: %v of %s: %s evicted %v ok %v errno %d grows %s", r.about, r.act, r.state, textOf(got.state), got.evicted, got.ok, got.errno, more(got.state.Counts))
	}
}

// P12.1

func TestNew(t *testing.T) {
	for _, c := range goodConfigs() {
		s, e := New(c)
		if e != api.OK || !same(s, api.State{Config: c}) || !Right(s) {
			t.Errorf("New(%v): %v, %d", c, s, e)
		}
		if Kept(s, 0) || Kept(s, greatest) {
			t.Errorf("New(%v) keeps something", c)
		}
	}
	for _, c := range badConfigs() {
		if s, e := New(c); e != api.ErrConfig || !same(s, api.State{}) {
			t.Errorf("New(%v): %v, %d", c, s, e)
		}
	}
}

// rightOnes are states that are right, of Cap 5, Quota 2, Ghosts 3: at most 3
// hot pages, 5 kept and 3 gone.
var rightOnes = []string{
	"| |",
	"h1 | |",
	"h1 h2 h3 | |",
	"h1 h2 h3 | 4 5 |",
	"| 1 2 3 4 5 |",
	"h0 | 1 2 3 18446744073709551615 |",
	"c2 h1 | 2 |",
	"c2 c3 h1 | 3 2 |",
	"c2 c3 h1 | 4 3 2 5 |",
	"g4 h1 | | 4",
	"g4 g5 g6 h1 | | 5 6 4",
	"h0 g4 c2 g18446744073709551615 c3 g6 h1 h7 | 3 2 | 4 6 18446744073709551615",
}

func TestRight(t *testing.T) {
	c := lirs(5, 2, 3)
	for _, text := range rightOnes {
		s := stateOf(c, text)
		if !Right(s) || !isRight(s) {
			t.Errorf("%s is right", text)
		}
		s.Counts = api.Counts{Hits: greatest, Misses: 1, Raised: greatest, Lowered: greatest, Pruned: greatest, Evicted: greatest, Forgotten: greatest, Cleared: 3, Ended: 4, Steps: 5}
		if !Right(s) {
			t.Errorf("%s is right whatever its counts", text)
		}
		s = roomy(s)
		stood := copyOf(whole(s))
		if !Right(s) || !same(whole(s), stood) {
			t.Errorf("%s is changed by Right", text)
		}
	}
}

func TestRightWrongLists(t *testing.T) {
	c := lirs(5, 2, 3)
	for _, text := range []string{
		"h1 h1 | |",
		"h1 c2 h1 | 2 |",
		"c2 c2 h1 | 2 |",
		"c1 h1 | 1 |",
		"h1 g1 h3 | | 1",
		"g2 g2 h1 | | 2",
		"g2 c2 h1 | 2 | 2",
		"h1 | 2 2 |",
		"c2 h1 | 2 3 2 |",
		"g2 h1 | | 2 2",
		"g2 g3 h1 | | 2 2",
		"g2 g3 g4 h1 | | 2 3 2",
		"h1 | 1 |",
		"h1 h2 | 3 2 |",
		"g2 h1 | 2 | 2",
		"g2 h1 | 2 |",
		"c2 h1 | |",
		"c2 c3 h1 | 2 |",
		"c2 c3 h1 | 2 4 |",
		"c2 h1 | 3 |",
		"g2 h1 | |",
		"g2 g3 h1 | | 2",
		"g2 g3 h1 | | 2 4",
		"h1 | | 2",
		"h1 | | 1",
		"c2 h1 | 2 | 2",
		"h1 | 2 | 2",
		"| | 2",
		"| 2 | 2",
		"g2 h1 | | 2 3",
		"g2 h1 | | 3",
		"c2 | 2 |",
		"g2 | | 2",
		"h1 c2 | 2 |",
		"h1 g2 | | 2",
		"c2 c3 | 2 3 |",
		"h1 h2 h3 h4 | |",
		"h1 h2 h3 | 4 5 6 |",
		"h1 | 2 3 4 5 6 |",
		"| 1 2 3 4 5 6 |",
		"c2 c3 c4 h1 | 2 3 4 5 6 |",
		"g2 g3 g4 g5 h1 | | 2 3 4 5",
		"?2 h1 | |",
		"h1 ?2 | |",
		"?2 h1 | 2 |",
	} {
		if s := stateOf(c, text); Right(s) || isRight(s) {
			t.Errorf("%s is not right", text)
		}
	}
}

// wrongs makes states that are wrong by one thing alone of one that is right.
func wrongs(s api.State) []api.State {
	var list []api.State
	add := func(change func(*api.State)) {
		x := copyOf(s)
		change(&x)
		list = append(list, x)
	}
	for _, c := range badConfigs() {
		add(func(x *api.State) { x.Config = c })
	}
	for _, n := range append([]int{1, 2, 255, 256}, far...) {
		add(func(x *api.State) { x.Target = n })
		add(func(x *api.State) { x.Cold = n })
		add(func(x *api.State) { x.Test = n })
	}
	for i := range s.Pages {
		for _, kind := range append([]int{0, 1, 2, 3, 4, 5, 255, 256, 257}, far...) {
			if api.Kind(kind) != s.Pages[i].Kind {
				add(func(x *api.State) { x.Pages[i].Kind = api.Kind(kind) })
			}
		}
		add(func(x *api.State) { x.Pages[i].Test = true })
		add(func(x *api.State) { x.Pages[i].Mark = true })
		add(func(x *api.State) { x.Pages = append(x.Pages, x.Pages[i]) })
		add(func(x *api.State) { x.Pages = slices.Insert(x.Pages, 0, x.Pages[i]) })
	}
	for i := range s.Queue {
		add(func(x *api.State) { x.Queue = append(x.Queue, x.Queue[i]) })
		add(func(x *api.State) { x.Ghosts = append(x.Ghosts, x.Queue[i]) })
		add(func(x *api.State) { x.Pages = append(x.Pages, api.Page{Key: x.Queue[i], Kind: api.Cold}) })
		add(func(x *api.State) { x.Pages = slices.Insert(x.Pages, 0, api.Page{Key: x.Queue[i], Kind: api.Hot}) })
	}
	for i := range s.Ghosts {
		add(func(x *api.State) { x.Ghosts = append(x.Ghosts, x.Ghosts[i]) })
		add(func(x *api.State) { x.Ghosts = slices.Delete(x.Ghosts, i, i+1) })
		add(func(x *api.State) { x.Ghosts[i] = 50 })
		add(func(x *api.State) { x.Queue = append(x.Queue, x.Ghosts[i]) })
	}
	add(func(x *api.State) { x.Ghosts = append(x.Ghosts, 50) })
	add(func(x *api.State) { x.Pages = slices.Insert(x.Pages, 0, api.Page{Key: 50, Kind: api.Cold}) })
	add(func(x *api.State) { x.Pages = slices.Insert(x.Pages, 0, api.Page{Key: 50, Kind: api.Gone}) })
	return list
}

func TestRightWrongByOneThing(t *testing.T) {
	for _, text := range rightOnes {
		for _, s := range wrongs(stateOf(lirs(5, 2, 3), text)) {
			if want := isRight(s); Right(s) != want {
				t.Errorf("%s, config %v, %d %d %d: right %v, not %v", textOf(s), s.Config, s.Target, s.Cold, s.Test, !want, want)
			}
		}
	}
	if s := stateOf(lirs(5, 2, 3), "h1 c2 h3 | 2 4 |"); len(wrongs(s)) < 100 {
		t.Errorf("too few wrong states: %d", len(wrongs(s)))
	}
	if Right(api.State{}) {
		t.Error("the zero state is right")
	}
}

func TestRightEdgesOfConfigs(t *testing.T) {
	text := "h1 g4 h2 h3 | 5 6 | 4"
	for most := 0; most <= 8; most++ {
		for quota := -1; quota <= 8; quota++ {
			for ghosts := -1; ghosts <= 3; ghosts++ {
				s := stateOf(lirs(most, quota, ghosts), text)
				if want := isRight(s); Right(s) != want {
					t.Errorf("%s of %v: right %v", text, s.Config, !want)
				}
			}
		}
	}
}

// full makes a state of as many pages as may be: hot ones, cold ones in and
// outside the stack, gone ones.
func full(most, quota, cold, ghosts int) api.State {
	s := api.State{Config: lirs(most, quota, ghosts)}
	for i := range ghosts {
		s.Pages = append(s.Pages, api.Page{Key: uint64(1000 + i), Kind: api.Gone})
		s.Ghosts = append(s.Ghosts, uint64(1000+i))
	}
	for i := range quota {
		if i < cold {
			s.Pages = append(s.Pages, api.Page{Key: uint64(2000 + i), Kind: api.Cold})
		}
		s.Queue = append(s.Queue, uint64(2000+i))
	}
	for i := range most - quota {
		s.Pages = append(s.Pages, api.Page{Key: greatest - uint64(i), Kind: api.Hot})
	}
	return s
}

func TestRightGreatest(t *testing.T) {
	for _, s := range []api.State{full(256, 1, 1, 512), full(256, 255, 255, 512), full(256, 128, 0, 512), full(256, 100, 50, 0), full(2, 1, 1, 512), full(2, 1, 0, 0)} {
		if !Right(s) || !isRight(s) {
			t.Errorf("a full state of %v is right", s.Config)
		}
		x := copyOf(s)
		x.Queue = append(x.Queue, 7)
		if Right(x) {
			t.Errorf("one kept page more than may be, of %v", s.Config)
		}
		x = copyOf(s)
		x.Pages = slices.Insert(x.Pages, 0, api.Page{Key: 7, Kind: api.Gone})
		x.Ghosts = append(x.Ghosts, 7)
		if Right(x) {
			t.Errorf("one gone page more than may be, of %v", s.Config)
		}
		x = copyOf(s)
		x.Pages = slices.Insert(x.Pages, 0, api.Page{Key: 7, Kind: api.Hot})
		x.Queue = slices.DeleteFunc(x.Queue, func(k uint64) bool { return k == 2000 })
		x.Pages = slices.DeleteFunc(x.Pages, func(p api.Page) bool { return p.Key == 2000 })
		if Right(x) {
			t.Errorf("one hot page more than may be, of %v", s.Config)
		}
	}
}

func TestRightOfLongLists(t *testing.T) {
	long := api.State{Config: lirs(256, 128, 512)}
	for i := range 300000 {
		k := uint64(i)
		long.Queue = append(long.Queue, k)
		long.Ghosts = append(long.Ghosts, k)
		long.Pages = append(long.Pages, api.Page{Key: k, Kind: api.Cold})
	}
	queue, pages, ghosts := long, long, long
	queue.Pages, queue.Ghosts = nil, nil
	pages.Queue, pages.Ghosts = nil, nil
	ghosts.Pages, ghosts.Queue = nil, nil
	for i, s := range []api.State{long, queue, pages, ghosts} {
		if Right(s) || Kept(s, 1) {
			t.Errorf("long state %d is right", i)
		}
		if x, l, e := Resize(s, lirs(2, 1, 0)); e != api.ErrState || len(l) > 0 || !same(x, s) {
			t.Errorf("long state %d is resized", i)
		}
		if x, ok := Touch(s, 1); ok || !same(x, api.State{}) {
			t.Errorf("long state %d is touched", i)
		}
	}
}

func TestKept(t *testing.T) {
	s := stateOf(lirs(5, 2, 3), "h0 g4 c2 g18446744073709551615 h1 | 2 3 | 4 18446744073709551615")
	for key, want := range map[uint64]bool{0: true, 1: true, 2: true, 3: true, 4: false, greatest: false, 5: false, greatest - 1: false, 1 << 32: false} {
		if Kept(s, key) != want {
			t.Errorf("Kept(%d) is not %v", key, want)
		}
	}
	s = stateOf(lirs(5, 2, 3), "h18446744073709551615 | 0 |")
	if !Kept(s, greatest) || !Kept(s, 0) || Kept(s, 1) {
		t.Error("the greatest key is hot, 0 is cold")
	}
	for _, x := range wrongs(s) {
		if !isRight(x) && (Kept(x, greatest) || Kept(x, 0)) {
			t.Errorf("%s of %v is not right, and keeps something", textOf(x), x.Config)
		}
	}
	given := roomy(s)
	stood := copyOf(whole(given))
	if !Kept(given, 0) || !same(whole(given), stood) {
		t.Error("Kept changes a state")
	}
}

// P12.2

var touches = []row{
	{"hot on top", lirs(5, 2, 3), "h1 c2 h3 | 2 |", act{name: "touch", key: 1}, "h1 c2 h3 | 2 |", "", true, "h"},
	{"hot alone", lirs(5, 2, 3), "h1 | 2 |", act{name: "touch", key: 1}, "h1 | 2 |", "", true, "h"},
	{"hot between", lirs(5, 2, 3), "c4 h1 h2 c5 h3 | 5 4 |", act{name: "touch", key: 2}, "h2 c4 h1 c5 h3 | 5 4 |", "", true, "h"},
	{"hot at the bottom, a hot one above", lirs(5, 2, 3), "h1 h2 h3 | 4 |", act{name: "touch", key: 3}, "h3 h1 h2 | 4 |", "", true, "h"},
	{"hot at the bottom, cold and gone ones above", lirs(5, 2, 3), "h1 g6 c5 g4 h3 | 7 5 | 4 6", act{name: "touch", key: 3}, "h3 h1 | 7 5 |", "", true, "hppp"},
	{"hot at the bottom, the only hot one", lirs(5, 2, 3), "g4 c2 h3 | 2 | 4", act{name: "touch", key: 3}, "h3 | 2 |", "", true, "hpp"},
	{"cold in the stack, no room", lirs(5, 2, 3), "h1 c4 h2 g6 h3 | 5 4 | 6", act{name: "touch", key: 4}, "h4 h1 h2 | 5 3 |", "", true, "hrlp"},
	{"cold in the stack, no room, the lowered one is alone", lirs(3, 2, 3), "c2 g4 c3 h1 | 3 2 | 4", act{name: "touch", key: 2}, "h2 | 3 1 |", "", true, "hrlpp"},
	{"cold in the stack, room", lirs(5, 2, 3), "h1 c4 g6 h2 | 4 5 | 6", act{name: "touch", key: 4}, "h4 h1 g6 h2 | 5 | 6", "", true, "hr"},
	{"cold on top of the stack, no room", lirs(4, 2, 3), "c4 h1 h2 | 3 4 |", act{name: "touch", key: 4}, "h4 h1 | 3 2 |", "", true, "hrl"},
	{"cold outside the stack, room", lirs(5, 2, 3), "g6 h2 | 4 5 | 6", act{name: "touch", key: 4}, "h4 g6 h2 | 5 | 6", "", true, "hr"},
	{"cold outside the stack, the stack empty", lirs(5, 2, 3), "| 4 5 |", act{name: "touch", key: 5}, "h5 | 4 |", "", true, "hr"},
	{"cold outside the stack, no room", lirs(5, 2, 3), "h1 h2 h3 | 4 5 |", act{name: "touch", key: 4}, "c4 h1 h2 h3 | 5 4 |", "", true, "h"},
	{"cold outside the stack, no room, the queue's end", lirs(5, 2, 3), "c4 h1 h2 h3 | 4 5 |", act{name: "touch", key: 5}, "c5 c4 h1 h2 h3 | 4 5 |", "", true, "h"},
	{"gone", lirs(5, 2, 3), "g6 h2 | 4 5 | 6", act{name: "touch", key: 6}, "g6 h2 | 4 5 | 6", "", false, ""},
	{"strange", lirs(5, 2, 3), "g6 h2 | 4 5 | 6", act{name: "touch", key: 7}, "g6 h2 | 4 5 | 6", "", false, ""},
	{"of nothing", lirs(5, 2, 3), "| |", act{name: "touch", key: 0}, "| |", "", false, ""},
	{"key 0, hot", lirs(2, 1, 0), "h0 | 1 |", act{name: "touch", key: 0}, "h0 | 1 |", "", true, "h"},
	{"key 0, cold in the stack", lirs(2, 1, 0), "c0 h18446744073709551615 | 0 |", act{name: "touch", key: 0}, "h0 | 18446744073709551615 |", "", true, "hrl"},
	{"the greatest key, cold outside", lirs(2, 1, 0), "h0 | 18446744073709551615 |", act{name: "touch", key: greatest}, "c18446744073709551615 h0 | 18446744073709551615 |", "", true, "h"},
}

func TestTouch(t *testing.T) {
	for _, r := range touches {
		r.run(t)
	}
}

// P12.3

var admits = []row{
	{"hot", lirs(5, 2, 3), "h1 g6 h2 | 4 5 | 6", act{name: "admit", key: 2}, "h1 g6 h2 | 4 5 | 6", "", false, ""},
	{"cold in the stack", lirs(5, 2, 3), "c4 h2 | 4 5 |", act{name: "admit", key: 4}, "c4 h2 | 4 5 |", "", false, ""},
	{"cold outside the stack", lirs(5, 2, 3), "c4 h2 | 4 5 |", act{name: "admit", key: 5}, "c4 h2 | 4 5 |", "", false, ""},
	{"new, of nothing", lirs(5, 2, 3), "| |", act{name: "admit", key: 0}, "h0 | |", "", true, "mr"},
	{"new, room for a hot one", lirs(5, 2, 3), "c4 h2 | 4 |", act{name: "admit", key: greatest}, "h18446744073709551615 c4 h2 | 4 |", "", true, "mr"},
	{"new, room for a hot one, but full", lirs(5, 2, 3), "c4 h2 | 4 5 6 7 |", act{name: "admit", key: 1}, "h1 g4 h2 | 5 6 7 | 4", "4", true, "mre"},
	{"new, full queue, empty stack", lirs(5, 2, 3), "| 4 5 6 7 8 |", act{name: "admit", key: 1}, "h1 | 5 6 7 8 |", "4", true, "mre"},
	{"new, no room for a hot one, not full", lirs(5, 2, 3), "h1 h2 h3 | 4 |", act{name: "admit", key: 0}, "c0 h1 h2 h3 | 4 0 |", "", true, "m"},
	{"new, full, the spilled one in the stack", lirs(5, 2, 3), "h1 c4 h2 g6 h3 | 4 5 | 6", act{name: "admit", key: 7}, "c7 h1 g4 h2 g6 h3 | 5 7 | 6 4", "4", true, "me"},
	{"new, full, the spilled one not in the stack", lirs(5, 2, 3), "h1 c5 h2 g6 h3 | 4 5 | 6", act{name: "admit", key: 7}, "c7 h1 c5 h2 g6 h3 | 5 7 | 6", "4", true, "me"},
	{"new, the ghosts full", lirs(5, 2, 3), "g8 h1 c4 h2 g6 g9 h3 | 4 5 | 6 8 9", act{name: "admit", key: 7}, "c7 g8 h1 g4 h2 g9 h3 | 5 7 | 8 9 4", "4", true, "mef"},
	{"new, the ghosts full, none comes", lirs(5, 2, 3), "g8 h1 h2 g6 g9 h3 | 4 5 | 6 8 9", act{name: "admit", key: 7}, "c7 g8 h1 h2 g6 g9 h3 | 5 7 | 6 8 9", "4", true, "me"},
	{"new, no ghosts", lirs(3, 1, 0), "c3 h2 h1 | 3 |", act{name: "admit", key: 4}, "c4 h2 h1 | 4 |", "3", true, "mef"},
	{"new, no ghosts, not in the stack", lirs(3, 1, 0), "h2 h1 | 3 |", act{name: "admit", key: 4}, "c4 h2 h1 | 4 |", "3", true, "me"},
	{"new, no ghosts, room for a hot one", lirs(3, 1, 0), "c3 h2 | 3 4 |", act{name: "admit", key: 5}, "h5 h2 | 4 |", "3", true, "mref"},
	{"gone, full, the ghosts full", lirs(5, 2, 3), "g8 h1 c4 h2 g6 g9 h3 | 4 5 | 6 8 9", act{name: "admit", key: 8}, "h8 h1 g4 h2 | 5 3 | 4", "4", true, "mrlppe"},
	{"gone, full, the lowest ghost", lirs(5, 2, 3), "h1 h2 g6 h3 | 4 5 | 6", act{name: "admit", key: 6}, "h6 h1 h2 | 5 3 |", "4", true, "mrle"},
	{"gone, not full, no room for a hot one", lirs(5, 2, 3), "h1 g6 h2 h3 | 4 | 6", act{name: "admit", key: 6}, "h6 h1 h2 | 4 3 |", "", true, "mrl"},
	{"gone, not full, room for a hot one", lirs(5, 2, 3), "h1 g6 h2 | 4 | 6", act{name: "admit", key: 6}, "h6 h1 h2 | 4 |", "", true, "mr"},
	{"gone, full, room for a hot one", lirs(5, 2, 3), "h1 g6 h2 | 3 4 5 | 6", act{name: "admit", key: 6}, "h6 h1 h2 | 4 5 |", "3", true, "mre"},
	{"gone, one ghost may be, which takes its place", lirs(3, 1, 1), "c3 g4 h2 h1 | 3 | 4", act{name: "admit", key: 4}, "h4 g3 h2 | 1 | 3", "3", true, "mrle"},
	{"gone, what was spilled is pruned", lirs(2, 1, 4), "g4 c3 h1 | 3 | 4", act{name: "admit", key: 4}, "h4 | 1 |", "3", true, "mrlpe"},
	{"new, key 0 evicted", lirs(2, 1, 4), "c0 h18446744073709551615 | 0 |", act{name: "admit", key: 1}, "c1 g0 h18446744073709551615 | 1 | 0", "0", true, "me"},
	{"new, the greatest key evicted", lirs(2, 1, 4), "h0 | 18446744073709551615 |", act{name: "admit", key: 1}, "c1 h0 | 1 |", "18446744073709551615", true, "me"},
	{"gone, the greatest key", lirs(2, 1, 4), "g18446744073709551615 c0 h1 | 0 | 18446744073709551615", act{name: "admit", key: greatest}, "h18446744073709551615 | 1 |", "0", true, "mrlpe"},
}

func TestAdmit(t *testing.T) {
	for _, r := range admits {
		r.run(t)
	}
}

// P12.4

var drops = []row{
	{"hot on top", lirs(5, 2, 3), "h1 c4 h2 | 4 |", act{name: "drop", key: 1}, "c4 h2 | 4 |", "", true, ""},
	{"hot between", lirs(5, 2, 3), "h1 h2 c4 h3 | 4 |", act{name: "drop", key: 2}, "h1 c4 h3 | 4 |", "", true, ""},
	{"hot at the bottom", lirs(5, 2, 3), "h1 g6 c4 h3 | 5 4 | 6", act{name: "drop", key: 3}, "h1 | 5 4 |", "", true, "pp"},
	{"hot, the only one", lirs(5, 2, 3), "g6 c4 h3 | 5 4 | 6", act{name: "drop", key: 3}, "| 5 4 |", "", true, "pp"},
	{"hot, all there is", lirs(5, 2, 3), "h3 | |", act{name: "drop", key: 3}, "| |", "", true, ""},
	{"cold in the stack", lirs(5, 2, 3), "h1 c4 h3 | 5 4 6 |", act{name: "drop", key: 4}, "h1 h3 | 5 6 |", "", true, ""},
	{"cold outside the stack", lirs(5, 2, 3), "h1 c4 h3 | 5 4 6 |", act{name: "drop", key: 5}, "h1 c4 h3 | 4 6 |", "", true, ""},
	{"gone", lirs(5, 2, 3), "h1 g6 g7 h3 | 5 | 7 6", act{name: "drop", key: 6}, "h1 g7 h3 | 5 | 7", "", false, ""},
	{"strange", lirs(5, 2, 3), "h1 g6 c4 h3 | 5 4 | 6", act{name: "drop", key: 9}, "h1 g6 c4 h3 | 5 4 | 6", "", false, ""},
	{"of nothing", lirs(5, 2, 3), "| |", act{name: "drop", key: 0}, "| |", "", false, ""},
	{"key 0, cold", lirs(2, 1, 3), "c0 h18446744073709551615 | 0 |", act{name: "drop", key: 0}, "h18446744073709551615 | |", "", true, ""},
	{"the greatest key, hot", lirs(2, 1, 3), "c0 h18446744073709551615 | 0 |", act{name: "drop", key: greatest}, "| 0 |", "", true, "p"},
}

func TestDrop(t *testing.T) {
	for _, r := range drops {
		r.run(t)
	}
}

var resizes = []row{
	{"to the same", lirs(5, 2, 3), "h1 g6 c4 h3 | 5 4 | 6", act{name: "resize", config: lirs(5, 2, 3)}, "h1 g6 c4 h3 | 5 4 | 6", "", false, ""},
	{"more of all", lirs(5, 2, 3), "h1 g6 h2 c4 h3 | 5 4 | 6", act{name: "resize", config: lirs(256, 3, 512)}, "h1 g6 h2 c4 h3 | 5 4 | 6", "", false, ""},
	{"less Cap", lirs(6, 2, 3), "h1 c7 h2 g6 c4 h3 h8 | 4 7 | 6", act{name: "resize", config: lirs(4, 2, 3)}, "h1 g7 h2 | 8 3 | 7", "4 7", false, "llppee"},
	{"less Cap, the lowered ones go first in, last out", lirs(6, 1, 3), "h1 h2 h3 h4 h5 | 6 |", act{name: "resize", config: lirs(2, 1, 3)}, "h1 | 2 |", "6 5 4 3", false, "lllleeee"},
	{"less Cap, room for all the hot ones", lirs(6, 2, 3), "c5 h1 c6 h2 | 5 6 3 4 |", act{name: "resize", config: lirs(3, 1, 3)}, "g5 h1 g6 h2 | 4 | 5 6", "5 6 3", false, "eee"},
	{"more Quota", lirs(5, 1, 3), "h1 g6 h2 c5 h3 g7 h4 | 5 | 6 7", act{name: "resize", config: lirs(5, 3, 3)}, "h1 g6 h2 | 5 4 3 | 6", "", false, "llpp"},
	{"more Quota, one hot page is left", lirs(5, 1, 3), "c5 h1 g6 h2 h3 h4 | 5 | 6", act{name: "resize", config: lirs(5, 4, 3)}, "c5 h1 | 5 4 3 2 |", "", false, "lllp"},
	{"less Quota", lirs(5, 3, 3), "h1 g6 h2 | 5 4 3 | 6", act{name: "resize", config: lirs(5, 1, 3)}, "h1 g6 h2 | 5 4 3 | 6", "", false, ""},
	{"less Ghosts", lirs(5, 2, 3), "g6 h1 g7 h2 g8 h3 | 5 4 | 7 6 8", act{name: "resize", config: lirs(5, 2, 1)}, "h1 h2 g8 h3 | 5 4 | 8", "", false, "ff"},
	{"no ghosts", lirs(5, 2, 3), "g6 h1 g7 h2 g8 h3 | 5 4 | 7 6 8", act{name: "resize", config: lirs(5, 2, 0)}, "h1 h2 h3 | 5 4 |", "", false, "fff"},
	{"less Cap and Ghosts", lirs(5, 3, 3), "c4 g6 h1 c5 h2 | 5 4 3 | 6", act{name: "resize", config: lirs(3, 1, 1)}, "g4 h1 h2 | 3 | 4", "5 4", false, "eeff"},
	{"less Cap, the queue alone", lirs(5, 3, 3), "| 1 2 3 4 5 |", act{name: "resize", config: lirs(2, 1, 0)}, "| 4 5 |", "1 2 3", false, "eee"},
	{"of nothing", lirs(5, 3, 3), "| |", act{name: "resize", config: lirs(2, 1, 0)}, "| |", "", false, ""},
	{"more Cap and Quota", lirs(2, 1, 3), "c0 h18446744073709551615 | 0 |", act{name: "resize", config: lirs(256, 255, 512)}, "c0 h18446744073709551615 | 0 |", "", false, ""},
	{"key 0 and the greatest one evicted", lirs(4, 3, 3), "c0 h1 | 0 18446744073709551615 5 |", act{name: "resize", config: lirs(2, 1, 3)}, "g0 h1 | 5 | 0", "0 18446744073709551615", false, "ee"},
}

func TestResize(t *testing.T) {
	for _, r := range resizes {
		r.run(t)
	}
}

func TestResizeErrors(t *testing.T) {
	right := stateOf(lirs(5, 2, 3), "h1 g6 c4 h3 | 5 4 | 6")
	right.Counts = noted
	for _, c := range badConfigs() {
		if r := do(t, right, act{name: "resize", config: c}); r.errno != api.ErrConfig || !same(r.state, right) || len(r.evicted) > 0 {
			t.Errorf("to %v: %d, %s", c, r.errno, textOf(r.state))
		}
	}
	for _, s := range wrongs(right) {
		if isRight(s) {
			continue
		}
		for _, c := range []api.Config{s.Config, lirs(5, 2, 3), lirs(2, 1, 0), {}, lirs(1, 1, 0), {Policy: api.Clock, Cap: 5, Quota: 2}} {
			if r := do(t, s, act{name: "resize", config: c}); r.errno != api.ErrState || !same(r.state, s) || len(r.evicted) > 0 {
				t.Errorf("of %s, to %v: %d", textOf(s), c, r.errno)
			}
		}
	}
}

func TestNotRight(t *testing.T) {
	right := stateOf(lirs(5, 2, 3), "h1 g6 c4 h3 | 5 4 | 6")
	right.Counts = noted
	for _, s := range append(wrongs(right), api.State{}, api.State{Counts: noted}) {
		if isRight(s) {
			continue
		}
		for _, name := range []string{"touch", "admit", "drop"} {
			for _, key := range []uint64{0, 1, 3, 4, 5, 6, 7, 50, greatest} {
				if r := do(t, s, act{name: name, key: key}); r.ok || len(r.evicted) > 0 || !same(r.state, api.State{}) {
					t.Errorf("%s %d of %s: %v %s", name, key, textOf(s), r.ok, textOf(r.state))
				}
			}
		}
	}
}

// rows tells all lists of keys below so many, in which each is at most once.
func rows(keys int) [][]uint64 {
	lists := [][]uint64{nil}
	for i := 0; i < len(lists); i++ {
		for k := range uint64(keys) {
			if !has(lists[i], k) {
				lists = append(lists, append(slices.Clone(lists[i]), k))
			}
		}
	}
	return lists
}

// stacks tells all stacks of keys below so many, of all kinds.
func stacks(keys int) [][]api.Page {
	var all [][]api.Page
	for _, row := range rows(keys) {
		kinds := 1
		for range row {
			kinds *= 3
		}
		for n := range kinds {
			var pages []api.Page
			for _, k := range row {
				pages = append(pages, api.Page{Key: k, Kind: api.Kind(n%3 + 1)})
				n /= 3
			}
			all = append(all, pages)
		}
	}
	return all
}

// P12.1 to P12.5

func TestAllSmallStates(t *testing.T) {
	keys := rows(3)
	for _, c := range []api.Config{lirs(2, 1, 1), lirs(3, 1, 2), lirs(3, 2, 0)} {
		right := 0
		for _, pages := range stacks(3) {
			for _, queue := range keys {
				for _, ghosts := range keys {
					s := api.State{Config: c, Pages: pages, Queue: queue, Ghosts: ghosts, Counts: noted}
					want := isRight(s)
					if Right(s) != want {
						t.Fatalf("%s of %v: right %v", textOf(s), c, !want)
					}
					for k := range uint64(4) {
						if Kept(s, k) != (want && modelOf(s).kept(k)) {
							t.Fatalf("%s of %v: kept %d", textOf(s), c, k)
						}
					}
					if want {
						right++
						allActs(t, s, 4)
					}
				}
			}
		}
		if right < 10 {
			t.Errorf("%v: only %d states are right", c, right)
		}
	}
}

// someConfigs are what states are resized to.
var someConfigs = []api.Config{
	lirs(2, 1, 0), lirs(2, 1, 1), lirs(3, 1, 0), lirs(3, 2, 1), lirs(3, 1, 3), lirs(4, 1, 2), lirs(4, 2, 1), lirs(4, 3, 0), lirs(5, 2, 3), lirs(256, 255, 512), lirs(256, 1, 0), lirs(4, 4, 1), {Policy: api.Clock, Cap: 3, Quota: 1},
}

// allActs does all that may be done with a state, and tells what comes of it.
func allActs(t *testing.T, s api.State, keys int) []api.State {
	t.Helper()
	var list []api.State
	for k := range uint64(keys) {
		for _, name := range []string{"touch", "admit", "drop"} {
			list = append(list, do(t, s, act{name: name, key: k}).state)
		}
	}
	for _, c := range someConfigs {
		list = append(list, do(t, s, act{name: "resize", config: c}).state)
	}
	return list
}

func TestAllThatComes(t *testing.T) {
	for _, c := range []api.Config{lirs(2, 1, 1), lirs(3, 1, 2), lirs(4, 2, 2)} {
		s, _ := New(c)
		met := map[string]bool{}
		left := []api.State{s}
		for len(left) > 0 && len(met) < 3000 {
			s, left = left[0], left[1:]
			s.Counts = noted
			name := textOf(s) + strconv.Itoa(s.Config.Cap) + " " + strconv.Itoa(s.Config.Quota) + " " + strconv.Itoa(s.Config.Ghosts)
			if met[name] {
				continue
			}
			met[name] = true
			left = append(left, allActs(t, s, 6)...)
		}
		if len(met) < 500 {
			t.Errorf("%v: only %d states come", c, len(met))
		}
	}
}

// dice throws numbers, the same ones each time.
type dice uint64

func (d *dice) below(n int) int {
	*d = *d*6364136223846793005 + 1442695040888963407
	return int(uint64(*d) >> 33 % uint64(n))
}

// nameOf tells a key of a number: some are at the ends, or far apart.
func nameOf(n int) uint64 {
	switch n {
	case 0:
		return 0
	case 1:
		return greatest
	case 2:
		return 1 << 63
	case 3:
		return 1 << 32
	}
	return uint64(n) * 0x9e3779b97f4a7c15
}

// ask touches a key that is kept, and admits another one.
func ask(s api.State, key uint64) act {
	if Kept(s, key) {
		return act{name: "touch", key: key}
	}
	return act{name: "admit", key: key}
}

// keepsBounds looks whether counts keep what P12.7 promises.
func keepsBounds(t *testing.T, c api.Counts) {
	t.Helper()
	asked := c.Hits + c.Misses
	if c.Pruned > asked || c.Raised > asked || c.Lowered > c.Raised || c.Evicted > c.Misses || c.Forgotten > c.Evicted || c.Cleared != 0 || c.Ended != 0 || c.Steps != 0 {
		t.Fatalf("counts %+v", c)
	}
}

// P12.2 to P12.7

func TestManyActs(t *testing.T) {
	for seed, c := range []api.Config{lirs(2, 1, 0), lirs(2, 1, 3), lirs(3, 1, 2), lirs(5, 2, 0), lirs(5, 4, 5), lirs(10, 3, 7), lirs(30, 5, 60)} {
		d := dice(seed + 1)
		s, _ := New(c)
		for range 3000 {
			key := nameOf(d.below(2*c.Cap + c.Ghosts/2 + 3))
			a := ask(s, key)
			switch d.below(20) {
			case 0:
				a = act{name: "drop", key: key}
			case 1:
				a = act{name: "touch", key: key}
			case 2:
				a = act{name: "admit", key: key}
			case 3:
				most := 2 + d.below(2*c.Cap)
				a = act{name: "resize", config: lirs(most, 1+d.below(most-1), d.below(2*c.Ghosts+2))}
			case 4:
				a = act{name: "resize", config: c}
			}
			s = do(t, s, a).state
			keepsBounds(t, s.Counts)
		}
	}
}

func TestGreatestCap(t *testing.T) {
	for _, c := range []api.Config{lirs(256, 64, 512), lirs(256, 1, 100), lirs(256, 255, 512)} {
		d := dice(c.Quota)
		s, _ := New(c)
		most := 0
		for i := range 1500 {
			a := ask(s, nameOf(d.below(900)))
			if i%3 == 0 {
				a = ask(s, nameOf(i%300))
			}
			if i%100 == 99 {
				a = act{name: "drop", key: nameOf(d.below(900))}
			}
			if i%500 == 400 {
				a = act{name: "resize", config: lirs(256-d.below(100), 1+d.below(150), d.below(513))}
			}
			if i%500 == 410 {
				a = act{name: "resize", config: c}
			}
			s = do(t, s, a).state
			keepsBounds(t, s.Counts)
			most = max(most, len(s.Pages)+len(s.Queue))
		}
		if most < 300 {
			t.Errorf("%v: at most %d pages", c, most)
		}
	}
}

// P12.6

func TestScan(t *testing.T) {
	for _, text := range []string{"h1 h2 h3 | 4 5 |", "c5 h1 g7 h2 g6 h3 | 5 4 | 6 7", "h1 h2 h3 | |", "g6 g7 g8 h1 h2 h3 | 4 5 | 8 7 6"} {
		for _, ghosts := range []int{3, 100, 512} {
			s := stateOf(lirs(5, 2, ghosts), text)
			for i := range 300 {
				key := uint64(1000 + i)
				if i%40 == 39 {
					key = greatest - uint64(i)
				}
				r := do(t, s, act{name: "admit", key: key})
				s = r.state
				if !r.ok || count(s.Pages, api.Hot) != 3 || s.Counts.Raised != 0 || s.Counts.Lowered != 0 || s.Counts.Pruned != 0 {
					t.Fatalf("a scan of %s, step %d: %s", text, i, textOf(s))
				}
				for k := range uint64(4) {
					if isHot := slices.Contains(s.Pages, api.Page{Key: k, Kind: api.Hot}); isHot != (k > 0) {
						t.Fatalf("a scan of %s, step %d: key %d is hot %v", text, i, k, isHot)
					}
				}
			}
		}
	}
}

// byWhen is LIRS told by when each key was asked last, without a stack: what
// the lists must tell as long as no ghost is forgotten.
type byWhen struct {
	config api.Config
	now    int
	when   map[uint64]int
	hot    map[uint64]bool
	queue  []uint64
}

// oldest tells the hot key that was asked longest ago, and when; 0, if none is.
func (b *byWhen) oldest() (uint64, int) {
	var key uint64
	least := 0
	for k := range b.hot {
		if least == 0 || b.when[k] < least {
			key, least = k, b.when[k]
		}
	}
	return key, least
}

func (b *byWhen) makeHot(key uint64) {
	b.queue = cut(b.queue, key)
	b.hot[key] = true
	b.when[key] = b.now
	if len(b.hot) > b.config.Cap-b.config.Quota {
		old, _ := b.oldest()
		delete(b.hot, old)
		b.queue = append(b.queue, old)
	}
}

func (b *byWhen) makeCold(key uint64) {
	b.queue = append(cut(b.queue, key), key)
	b.when[key] = b.now
}

func (b *byWhen) ask(key uint64) (bool, []uint64) {
	b.now++
	_, threshold := b.oldest()
	recent := b.when[key] > threshold
	free := len(b.hot) < b.config.Cap-b.config.Quota
	if b.hot[key] {
		b.when[key] = b.now
		return true, nil
	}
	if has(b.queue, key) {
		if recent || free {
			b.makeHot(key)
		} else {
			b.makeCold(key)
		}
		return true, nil
	}
	var evicted []uint64
	if len(b.hot)+len(b.queue) == b.config.Cap {
		evicted, b.queue = b.queue[:1:1], b.queue[1:]
	}
	if recent && b.when[key] > 0 || free {
		b.makeHot(key)
	} else {
		b.makeCold(key)
	}
	return false, evicted
}

// The hits and evictions of the lists are those of a machine without them.
func TestByWhenAlone(t *testing.T) {
	for seed, c := range []api.Config{lirs(2, 1, 40), lirs(3, 1, 40), lirs(5, 2, 40), lirs(8, 3, 40), lirs(12, 2, 40), lirs(12, 11, 40)} {
		d := dice(seed + 77)
		s, _ := New(c)
		b := &byWhen{config: c, when: map[uint64]int{}, hot: map[uint64]bool{}}
		for i := range 3000 {
			key := nameOf(d.below(min(40, 3*c.Cap)))
			if i%4 == 0 {
				key = nameOf(i / 4 % 15)
			}
			a := ask(s, key)
			r := call(s, a)
			hit, evicted := b.ask(key)
			if hit != (a.name == "touch") || !slices.Equal(r.evicted, evicted) || !slices.Equal(r.state.Queue, b.queue) || count(r.state.Pages, api.Hot) != len(b.hot) {
				t.Fatalf("%v, step %d, %v: %s evicted %v; by when: hit %v, evicted %v, queue %v", c, i, a, textOf(r.state), r.evicted, hit, evicted, b.queue)
			}
			s = r.state
		}
	}
}

// P12.2 to P12.4: examples of the document.
func TestExamples(t *testing.T) {
	s, _ := New(lirs(3, 1, 2))
	for i, x := range []struct {
		key           uint64
		evicted, want string
	}{{1, "", "h1 | |"}, {2, "", "h2 h1 | |"}, {3, "", "c3 h2 h1 | 3 |"}, {4, "3", "c4 g3 h2 h1 | 4 | 3"}, {4, "", "h4 g3 h2 | 1 | 3"}} {
		r := do(t, s, ask(s, x.key))
		if s = r.state; !r.ok || !slices.Equal(r.evicted, keysIn(x.evicted)) || !same(s, withCounts(stateOf(s.Config, x.want), s.Counts)) {
			t.Errorf("step %d: %s evicted %v", i, textOf(s), r.evicted)
		}
	}
}

func withCounts(s api.State, c api.Counts) api.State {
	s.Counts = c
	return s
}

// FuzzStack does with a state what bytes tell, two a step.
func FuzzStack(f *testing.F) {
	f.Add([]byte{1, 1, 2, 2, 3, 3, 4, 4, 4, 4, 200, 2, 230, 9, 2, 2})
	f.Add([]byte("the quick brown fox jumps over the lazy dog, and back again over the fox"))
	f.Fuzz(func(t *testing.T, script []byte) {
		s, _ := New(lirs(5, 2, 3))
		for i := 0; i+1 < len(script) && i < 2000; i += 2 {
			how, n := script[i], int(script[i+1])
			key := nameOf(n % 16)
			a := ask(s, key)
			switch {
			case how >= 240:
				most := 2 + n%9
				a = act{name: "resize", config: lirs(most, 1+n%(most-1), n/16)}
			case how >= 220:
				a = act{name: "drop", key: key}
			case how >= 210:
				a = act{name: "admit", key: key}
			case how >= 200:
				a = act{name: "touch", key: key}
			}
			s = do(t, s, a).state
			keepsBounds(t, s.Counts)
		}
	})
}
