package wheel

import (
	"fmt"
	"math"
	"slices"
	"strconv"
	"strings"
	"testing"

	"hutch/api"
)

const greatest = uint64(math.MaxUint64)

// far are numbers of which none is good anywhere, though some would be if only
// their lowest bits were looked at.
var far = []int{
	math.MinInt, math.MinInt + 1, math.MinInt + 2, -1<<32 + 1, -1 << 32, math.MinInt32, -513, -256, -2, -1,
	1 << 16, 1<<16 + 1, math.MaxInt32, 1 << 32, 1<<32 + 1, 1<<32 + 2, 1 << 62, math.MaxInt - 1, math.MaxInt,
}

func clock(most, quota, ghosts int) api.Config {
	return api.Config{Policy: api.Clock, Cap: most, Quota: quota, Ghosts: ghosts}
}

// mayBe says whether a config may be and is of CLOCK-Pro, by the words of the
// document alone.
func mayBe(c api.Config) bool {
	return c.Policy == 2 && c.Cap >= 2 && c.Cap <= 256 && c.Quota >= 1 && c.Quota < c.Cap && c.Ghosts >= 0 && c.Ghosts <= 512
}

// badConfigs are configs that may not be, or are of another policy, each wrong
// by one number alone, but the first one.
func badConfigs() []api.Config {
	list := []api.Config{
		{}, clock(1, 1, 0), clock(257, 1, 0), clock(3, 0, 2), clock(3, 3, 2), clock(3, 4, 2), clock(256, 256, 0), clock(3, 1, 513), clock(3, 1, -1), clock(2, 2, 0), clock(0, 1, 0),
	}
	for _, p := range append([]int{0, 1, 3, 4, 5, 256, 258}, far...) {
		list = append(list, api.Config{Policy: api.Policy(p), Cap: 3, Quota: 1, Ghosts: 2})
	}
	for _, n := range far {
		list = append(list, clock(n, 1, 2), clock(3, n, 2), clock(3, 1, n))
	}
	return list
}

// goodConfigs are configs of CLOCK-Pro that may be, with all edges.
func goodConfigs() []api.Config {
	return []api.Config{
		clock(2, 1, 0), clock(2, 1, 1), clock(2, 1, 512), clock(3, 1, 2), clock(3, 2, 0), clock(8, 2, 16), clock(255, 254, 511), clock(256, 1, 0), clock(256, 255, 512), clock(256, 128, 100),
	}
}

// stateOf reads a state from a text: the ring from the hot hand on (of each
// page a letter for the kind, the key, t for Test, m for Mark), a stroke, the
// target, the cold hand, the test hand.
func stateOf(c api.Config, text string) api.State {
	ring, rest, _ := strings.Cut(text, "|")
	s := api.State{Config: c}
	for _, w := range strings.Fields(ring) {
		p := api.Page{Kind: api.Kind(strings.IndexByte(" hcg", w[0]))}
		p.Mark = strings.HasSuffix(w, "m")
		w = strings.TrimSuffix(w[1:], "m")
		p.Test = strings.HasSuffix(w, "t")
		p.Key = keysIn(strings.TrimSuffix(w, "t"))[0]
		s.Pages = append(s.Pages, p)
	}
	if _, err := fmt.Sscan(rest, &s.Target, &s.Cold, &s.Test); err != nil {
		panic(text)
	}
	return s
}

func keysIn(text string) []uint64 {
	var keys []uint64
	for _, w := range strings.Fields(text) {
		k, err := strconv.ParseUint(w, 10, 64)
		if err != nil {
			panic(err)
		}
		keys = append(keys, k)
	}
	return keys
}

// textOf tells a state as stateOf reads it.
func textOf(s api.State) string {
	text := ""
	for _, p := range s.Pages {
		letter := "?"
		if p.Kind >= 1 && p.Kind <= 3 {
			letter = " hcg"[p.Kind : p.Kind+1]
		}
		text += letter + strconv.FormatUint(p.Key, 10)
		if p.Test {
			text += "t"
		}
		if p.Mark {
			text += "m"
		}
		text += " "
	}
	return text + fmt.Sprint("| ", s.Target, " ", s.Cold, " ", s.Test)
}

// same says whether two states are one; a list without an element may be nil.
func same(a, b api.State) bool {
	return a.Config == b.Config && a.Target == b.Target && a.Cold == b.Cold && a.Test == b.Test && a.Counts == b.Counts &&
		slices.Equal(a.Pages, b.Pages) && slices.Equal(a.Queue, b.Queue) && slices.Equal(a.Ghosts, b.Ghosts)
}

// copyOf makes a state whose lists share nothing with those of another one.
func copyOf(s api.State) api.State {
	s.Pages = append([]api.Page{}, s.Pages...)
	s.Queue = append([]uint64{}, s.Queue...)
	s.Ghosts = append([]uint64{}, s.Ghosts...)
	return s
}

// node is a page in the ring of a model.
type node struct {
	page       api.Page
	next, prev *node
}

// model is CLOCK-Pro told apart from the package: its pages are linked, its
// hands point at them, and what it counts of pages it counts as they change.
type model struct {
	config            api.Config
	target            int
	hotHand           *node
	coldHand          *node
	testHand          *node
	of                map[uint64]*node
	hot, kept, gone   int
	counts            api.Counts
	evicted           []uint64
	looksSinceDeed    int
	mostLooksForADeed int
}

func modelOf(s api.State) *model {
	m := &model{config: s.Config, target: s.Target, counts: s.Counts, of: map[uint64]*node{}}
	for _, p := range s.Pages {
		m.put(p)
	}
	m.coldHand, m.testHand = m.hotHand, m.hotHand
	for range s.Cold {
		m.coldHand = m.coldHand.next
	}
	for range s.Test {
		m.testHand = m.testHand.next
	}
	return m
}

func (m *model) state() api.State {
	s := api.State{Config: m.config, Target: m.target, Counts: m.counts}
	n := m.hotHand
	for i := range len(m.of) {
		s.Pages = append(s.Pages, n.page)
		if n == m.coldHand {
			s.Cold = i
		}
		if n == m.testHand {
			s.Test = i
		}
		n = n.next
	}
	return s
}

// number changes how many pages there are of a page's kind.
func (m *model) number(p api.Page, by int) {
	switch p.Kind {
	case api.Hot:
		m.hot += by
		m.kept += by
	case api.Cold:
		m.kept += by
	case api.Gone:
		m.gone += by
	}
}

// put puts a page ahead of the hot hand's one.
func (m *model) put(p api.Page) {
	n := &node{page: p}
	m.of[p.Key] = n
	m.number(p, 1)
	if m.hotHand == nil {
		n.next, n.prev = n, n
		m.hotHand, m.coldHand, m.testHand = n, n, n
		return
	}
	n.next, n.prev = m.hotHand, m.hotHand.prev
	n.next.prev, n.prev.next = n, n
}

func (m *model) hands() []**node { return []**node{&m.hotHand, &m.coldHand, &m.testHand} }

func (m *model) take(n *node) {
	for _, h := range m.hands() {
		if *h == n {
			*h = n.next
		}
	}
	n.next.prev, n.prev.next = n.prev, n.next
	if n.next == n {
		m.hotHand, m.coldHand, m.testHand = nil, nil, nil
	}
	delete(m.of, n.page.Key)
	m.number(n.page, -1)
}

func (m *model) become(n *node, p api.Page) {
	m.number(n.page, -1)
	m.number(p, 1)
	n.page = p
}

func (m *model) rise() {
	if m.target < m.config.Cap-1 {
		m.target++
	}
}

func (m *model) fall() {
	if m.target > 1 {
		m.target--
	}
}

func (m *model) look(h *node) *node {
	m.counts.Steps++
	m.looksSinceDeed++
	return h
}

// deed notes that a hand did something.
func (m *model) deed(count *uint64) {
	*count++
	m.mostLooksForADeed = max(m.mostLooksForADeed, m.looksSinceDeed)
	m.looksSinceDeed = 0
}

func (m *model) forget(n *node) {
	m.take(n)
	m.deed(&m.counts.Forgotten)
	m.fall()
}

func (m *model) end(n *node) {
	n.page.Test = false
	m.deed(&m.counts.Ended)
	m.fall()
}

func (m *model) cool() {
	for m.hot > m.config.Cap-m.target {
		n := m.look(m.hotHand)
		p := n.page
		if p.Kind == api.Gone {
			m.forget(n)
			continue
		}
		if p.Kind == api.Cold && p.Test {
			m.end(n)
		}
		if p.Kind == api.Hot && p.Mark {
			n.page.Mark = false
			m.deed(&m.counts.Cleared)
		}
		if p.Kind == api.Hot && !p.Mark {
			m.become(n, api.Page{Key: p.Key, Kind: api.Cold})
			m.deed(&m.counts.Lowered)
		}
		m.hotHand = n.next
	}
}

func (m *model) makeHot(key uint64) {
	m.counts.Raised++
	m.put(api.Page{Key: key, Kind: api.Hot})
	m.cool()
}

func (m *model) reclaim() {
	for {
		n := m.look(m.coldHand)
		p := n.page
		if p.Kind == api.Hot || p.Kind == api.Gone {
			m.coldHand = n.next
			continue
		}
		if !p.Mark {
			m.deed(&m.counts.Evicted)
			m.evicted = append(m.evicted, p.Key)
			if p.Test {
				m.become(n, api.Page{Key: p.Key, Kind: api.Gone, Test: true})
				m.coldHand = n.next
			} else {
				m.take(n)
			}
			return
		}
		m.deed(&m.counts.Cleared)
		m.take(n)
		if p.Test {
			m.rise()
			m.makeHot(p.Key)
		} else {
			m.put(api.Page{Key: p.Key, Kind: api.Cold, Test: true})
		}
	}
}

func (m *model) expire() {
	for m.gone > m.config.Ghosts {
		n := m.look(m.testHand)
		if n.page.Kind == api.Gone {
			m.forget(n)
			continue
		}
		if n.page.Kind == api.Cold && n.page.Test {
			m.end(n)
		}
		m.testHand = n.next
	}
}

func (m *model) keeps(key uint64) bool {
	n := m.of[key]
	return n != nil && n.page.Kind != api.Gone
}

func (m *model) touch(key uint64) bool {
	if !m.keeps(key) {
		return false
	}
	m.counts.Hits++
	m.of[key].page.Mark = true
	return true
}

func (m *model) admit(key uint64) bool {
	if m.keeps(key) {
		return false
	}
	m.counts.Misses++
	n := m.of[key]
	if n != nil {
		m.take(n)
		m.rise()
		m.cool()
	}
	for m.kept >= m.config.Cap {
		m.reclaim()
	}
	m.expire()
	if n != nil {
		m.makeHot(key)
	} else {
		m.put(api.Page{Key: key, Kind: api.Cold, Test: true})
	}
	return true
}

func (m *model) drop(key uint64) bool {
	was := m.keeps(key)
	if n := m.of[key]; n != nil {
		m.take(n)
	}
	return was
}

func (m *model) resize(c api.Config) {
	m.config, m.target = c, c.Quota
	m.cool()
	for m.kept > c.Cap {
		m.reclaim()
	}
	m.expire()
}

// isRight says whether a state is right, rule by rule, by the words of the
// document, with no eye on how long it takes.
func isRight(s api.State) bool {
	if !mayBe(s.Config) || s.Target < 1 || s.Target > s.Config.Cap-1 || len(s.Queue) > 0 || len(s.Ghosts) > 0 {
		return false
	}
	hot, cold, gone := 0, 0, 0
	for i, p := range s.Pages {
		switch p {
		case api.Page{Key: p.Key, Kind: 1}, api.Page{Key: p.Key, Kind: 1, Mark: true}:
			hot++
		case api.Page{Key: p.Key, Kind: 2}, api.Page{Key: p.Key, Kind: 2, Mark: true}, api.Page{Key: p.Key, Kind: 2, Test: true}, api.Page{Key: p.Key, Kind: 2, Test: true, Mark: true}:
			cold++
		case api.Page{Key: p.Key, Kind: 3, Test: true}:
			gone++
		default:
			return false
		}
		for _, q := range s.Pages[:i] {
			if p.Key == q.Key {
				return false
			}
		}
	}
	if hot > s.Config.Cap-s.Target || hot+cold > s.Config.Cap || gone > s.Config.Ghosts {
		return false
	}
	if len(s.Pages) == 0 {
		return s.Cold == 0 && s.Test == 0
	}
	return s.Cold >= 0 && s.Cold < len(s.Pages) && s.Test >= 0 && s.Test < len(s.Pages)
}

// act is something that is done with a state.
type act struct {
	name   string
	key    uint64
	config api.Config
}

func touch(key uint64) act      { return act{name: "touch", key: key} }
func admit(key uint64) act      { return act{name: "admit", key: key} }
func drop(key uint64) act       { return act{name: "drop", key: key} }
func resize(c api.Config) act   { return act{name: "resize", config: c} }
func to(most, quota, g int) act { return resize(clock(most, quota, g)) }
func (a act) isResize() bool    { return a.name == "resize" }
func configText(c api.Config) string {
	return fmt.Sprint(c.Policy, " ", c.Cap, " ", c.Quota, " ", c.Ghosts)
}

func (a act) String() string {
	if a.isResize() {
		return "resize to " + configText(a.config)
	}
	return a.name + " " + strconv.FormatUint(a.key, 10)
}

// told is all that a call may answer.
type told struct {
	state   api.State
	evicted []uint64
	ok      bool
	errno   api.Errno
}

func (a told) same(b told) bool {
	return same(a.state, b.state) && slices.Equal(a.evicted, b.evicted) && a.ok == b.ok && a.errno == b.errno
}

func (a told) String() string {
	return fmt.Sprint(textOf(a.state), " (", configText(a.state.Config), ") evicted ", a.evicted, " ok ", a.ok, " errno ", a.errno, " counts ", a.state.Counts)
}

// call does it by the package, with nothing looked at.
func call(s api.State, a act) told {
	var r told
	switch a.name {
	case "touch":
		r.state, r.ok = Touch(s, a.key)
	case "admit":
		r.state, r.evicted, r.ok = Admit(s, a.key)
	case "drop":
		r.state, r.ok = Drop(s, a.key)
	case "resize":
		r.state, r.evicted, r.errno = Resize(s, a.config)
	default:
		panic(a.name)
	}
	return r
}

// should tells what it ought to answer.
func should(s api.State, a act) told {
	if !isRight(s) {
		if a.isResize() {
			return told{state: s, errno: api.ErrState}
		}
		return told{}
	}
	m, r := modelOf(s), told{}
	switch a.name {
	case "touch":
		r.ok = m.touch(a.key)
	case "admit":
		r.ok = m.admit(a.key)
	case "drop":
		r.ok = m.drop(a.key)
	case "resize":
		if !mayBe(a.config) {
			return told{state: s, errno: api.ErrConfig}
		}
		m.resize(a.config)
	}
	r.state, r.evicted = m.state(), m.evicted
	return r
}

// roomy makes a state like another one, whose lists have room to spare, which
// is written full.
func roomy(s api.State) api.State {
	pages := append(append([]api.Page{}, s.Pages...), api.Page{Key: 91, Kind: 77, Test: true}, api.Page{Key: 92, Kind: 78, Mark: true}, api.Page{Key: 93, Kind: 79})
	queue := append(append([]uint64{}, s.Queue...), 93, 94)
	ghosts := append(append([]uint64{}, s.Ghosts...), 95, 96)
	s.Pages, s.Queue, s.Ghosts = pages[:len(s.Pages)], queue[:len(s.Queue)], ghosts[:len(s.Ghosts)]
	return s
}

// whole tells a state's lists with all the room that they have.
func whole(s api.State) api.State {
	s.Pages, s.Queue, s.Ghosts = s.Pages[:cap(s.Pages)], s.Queue[:cap(s.Queue)], s.Ghosts[:cap(s.Ghosts)]
	return s
}

// smear writes over all that was told, spare room and all.
func smear(r told) {
	s := whole(r.state)
	for i := range s.Pages {
		s.Pages[i] = api.Page{Key: 81, Kind: 82, Test: true, Mark: true}
	}
	for _, keys := range [][]uint64{s.Queue, s.Ghosts, r.evicted[:cap(r.evicted)]} {
		for i := range keys {
			keys[i] = 83
		}
	}
}

// apart looks whether two of the lists that were told share memory.
func apart(t *testing.T, r told) {
	t.Helper()
	s := whole(r.state)
	lists := [][]uint64{s.Queue, s.Ghosts, r.evicted[:cap(r.evicted)]}
	for i, keys := range lists {
		for j := range keys {
			keys[j] = uint64(i)
		}
	}
	for i, keys := range lists {
		for _, k := range keys {
			if k != uint64(i) {
				t.Fatal("two lists of one answer share memory")
			}
		}
	}
}

// do does it, holds what is told against what ought to be, and looks whether
// the state that was handed in stands as it stood.
func do(t *testing.T, s api.State, a act) told {
	t.Helper()
	want := should(s, a)
	given := roomy(s)
	stood := copyOf(whole(given))
	got := call(given, a)
	if !got.same(want) {
		t.Fatalf("%v of %s (config %s):\n%v\nnot %v", a, textOf(s), configText(s.Config), got, want)
	}
	if isRight(s) && !(isRight(got.state) && Right(got.state)) {
		t.Fatalf("%v of %s: %s is not right", a, textOf(s), textOf(got.state))
	}
	kept := told{state: copyOf(got.state), evicted: slices.Clone(got.evicted), ok: got.ok, errno: got.errno}
	smear(got)
	if !same(whole(given), stood) {
		t.Fatalf("%v of %s: what was handed in is changed", a, textOf(s))
	}
	apart(t, got)
	return kept
}

// noted are counts that tell which of them was changed.
var noted = api.Counts{Hits: 100, Misses: 200, Raised: 300, Lowered: 400, Pruned: 500, Evicted: 600, Forgotten: 700, Cleared: 800, Ended: 900, Steps: 1000}

// more tells by how much counts grew beyond those noted: a letter for each one
// more (hits h, misses m, raised r, lowered l, evicted e, forgotten f, cleared
// c, ended d), and behind them how many steps.
func more(c api.Counts) string {
	text := ""
	for _, n := range []struct {
		letter   string
		now, was uint64
	}{
		{"h", c.Hits, 100}, {"m", c.Misses, 200}, {"r", c.Raised, 300}, {"l", c.Lowered, 400}, {"PRUNED", c.Pruned, 500}, {"e", c.Evicted, 600}, {"f", c.Forgotten, 700}, {"c", c.Cleared, 800}, {"d", c.Ended, 900},
	} {
		text += strings.Repeat(n.letter, int(n.now-n.was))
	}
	if c.Steps != 1000 {
		text += strconv.Itoa(int(c.Steps) - 1000)
	}
	return text
}

// row is a state, an act, and what is told of it.
type row struct {
	about   string
	config  api.Config
	state   string
	act     act
	want    string
	evicted string
	ok      bool
	grows   string
}

func (r row) run(t *testing.T) {
	t.Helper()
	s := stateOf(r.config, r.state)
	s.Counts = noted
	if !isRight(s) {
		t.Fatalf("%s: %s is not right", r.about, r.state)
	}
	got := do(t, s, r.act)
	config := r.config
	if r.act.isResize() {
		config = r.act.config
	}
	want := stateOf(config, r.want)
	want.Counts = got.state.Counts
	if !same(got.state, want) || !slices.Equal(got.evicted, keysIn(r.evicted)) || got.ok != r.ok || got.errno != api.OK || more(got.state.Counts) != r.grows {
		t.Errorf("%s: %v of %s: %q, evicted %v ok %v errno %d grows %q", r.about, r.act, r.state, textOf(got.state), got.evicted, got.ok, got.errno, more(got.state.Counts))
	}
}

// P13.1

func TestNew(t *testing.T) {
	for _, c := range goodConfigs() {
		s, e := New(c)
		if e != api.OK || !same(s, api.State{Config: c, Target: c.Quota}) || !Right(s) {
			t.Errorf("New(%v): %v, %d", c, s, e)
		}
		if Kept(s, 0) || Kept(s, greatest) {
			t.Errorf("New(%v) keeps something", c)
		}
	}
	for _, c := range badConfigs() {
		if s, e := New(c); e != api.ErrConfig || !same(s, api.State{}) {
			t.Errorf("New(%v): %v, %d", c, s, e)
		}
	}
}

// rightOnes are states that are right, of Cap 5, Quota 2, Ghosts 3.
var rightOnes = []string{
	"| 1 0 0",
	"| 4 0 0",
	"h1 | 2 0 0",
	"h1m | 4 0 0",
	"c1 | 2 0 0",
	"c1t | 2 0 0",
	"c1m | 2 0 0",
	"c1tm | 2 0 0",
	"g1t | 2 0 0",
	"h1 c2 | 2 1 1",
	"h1 h2m h3 | 2 0 2",
	"h1 h2m h3 h4m | 1 3 0",
	"c1 c2t c3m c4tm c5 | 4 2 3",
	"g1t g2t g3t | 1 2 1",
	"h0 c1t g2t g18446744073709551615t c3m g4t h5m h6 | 2 7 7",
	"g9t c18446744073709551615t h0m c1 h3 c2tm | 3 5 0",
}

func TestRight(t *testing.T) {
	c := clock(5, 2, 3)
	for _, text := range rightOnes {
		s := stateOf(c, text)
		if !Right(s) || !isRight(s) {
			t.Errorf("%s is right", text)
		}
		s.Counts = api.Counts{Hits: greatest, Misses: 1, Raised: greatest, Lowered: greatest, Pruned: greatest, Evicted: greatest, Forgotten: greatest, Cleared: 3, Ended: 4, Steps: 5}
		s.Queue, s.Ghosts = []uint64{}, []uint64{}
		if !Right(s) {
			t.Errorf("%s is right whatever its counts", text)
		}
		s = roomy(s)
		stood := copyOf(whole(s))
		if !Right(s) || !same(whole(s), stood) {
			t.Errorf("%s is changed by Right", text)
		}
	}
}

func TestRightWrongRings(t *testing.T) {
	c := clock(5, 2, 3)
	for _, text := range []string{
		"h1 c2 | 0 0 0",
		"h1 c2 | 5 0 0",
		"c1 c2 | 5 0 0",
		"| 0 0 0",
		"| 5 0 0",
		"h1t c2 | 2 0 0",
		"c2 h1tm | 2 0 0",
		"c2 g1 | 2 0 0",
		"g1m c2 | 2 0 0",
		"g1tm c2 | 2 0 0",
		"c2 c3 g1tm | 2 0 0",
		"?1 c2 | 2 0 0",
		"c2 ?1t | 2 0 0",
		"h1 h1 | 2 0 0",
		"h1 c2 h1 | 2 0 0",
		"c2 c2t | 2 0 0",
		"g1t g1t | 2 0 0",
		"g1t h1 | 2 0 0",
		"c1 h2 g1t | 2 0 0",
		"h1 c2 h3 c1 | 2 0 0",
		"h1 c2 | 2 2 0",
		"h1 c2 | 2 0 2",
		"h1 c2 | 2 -1 0",
		"h1 c2 | 2 0 -1",
		"h1 | 2 1 0",
		"h1 | 2 0 1",
		"| 2 1 0",
		"| 2 0 1",
		"| 2 -1 0",
		"| 2 0 -1",
		"h1 h2 h3 h4 | 2 0 0",
		"h1 h2m | 4 0 0",
		"h1 h2 h3m h4 c5 h6 | 1 0 0",
		"h1 c2 c3t c4 c5m c6 | 2 0 0",
		"c1 c2 c3t c4 c5m c6 | 4 0 0",
		"h1 h2 h3 c4 c5 c6 | 2 0 0",
		"g1t g2t g3t g4t | 2 0 0",
		"h1 g2t g3t c5 g6t g7t | 2 0 0",
	} {
		if s := stateOf(c, text); Right(s) || isRight(s) {
			t.Errorf("%s is not right", text)
		}
	}
}

// wrongs makes states that are wrong by one thing alone of one that is right
// (some of them may be right nevertheless).
func wrongs(s api.State) []api.State {
	var list []api.State
	add := func(change func(*api.State)) {
		x := copyOf(s)
		change(&x)
		list = append(list, x)
	}
	for _, c := range badConfigs() {
		add(func(x *api.State) { x.Config = c })
	}
	for _, n := range append([]int{0, 1, 2, 3, 4, 5, 6, 7, 8, 9, 255, 256}, far...) {
		add(func(x *api.State) { x.Target = n })
		add(func(x *api.State) { x.Cold = n })
		add(func(x *api.State) { x.Test = n })
	}
	for i := range s.Pages {
		for _, kind := range append([]int{0, 1, 2, 3, 4, 5, 255, 256, 257}, far...) {
			add(func(x *api.State) { x.Pages[i].Kind = api.Kind(kind) })
			add(func(x *api.State) { x.Pages[i].Kind = api.Kind(kind); x.Pages[i].Test = !x.Pages[i].Test })
		}
		add(func(x *api.State) { x.Pages[i].Test = !x.Pages[i].Test })
		add(func(x *api.State) { x.Pages[i].Mark = !x.Pages[i].Mark })
		add(func(x *api.State) { x.Pages = append(x.Pages, x.Pages[i]) })
		add(func(x *api.State) { x.Pages = slices.Insert(x.Pages, 0, x.Pages[i]) })
		add(func(x *api.State) { x.Pages = append(x.Pages, api.Page{Key: x.Pages[i].Key, Kind: api.Cold}) })
		for j := range s.Pages {
			add(func(x *api.State) { x.Pages[i].Key = x.Pages[j].Key })
		}
		add(func(x *api.State) { x.Queue = append(x.Queue, x.Pages[i].Key) })
		add(func(x *api.State) { x.Ghosts = append(x.Ghosts, x.Pages[i].Key) })
	}
	add(func(x *api.State) { x.Queue = append(x.Queue, 50) })
	add(func(x *api.State) { x.Ghosts = append(x.Ghosts, 50) })
	for _, p := range []api.Page{{Key: 50, Kind: api.Cold}, {Key: 50, Kind: api.Hot}, {Key: 50, Kind: api.Gone, Test: true}, {Key: 50, Kind: api.Gone}} {
		add(func(x *api.State) { x.Pages = append(x.Pages, p) })
		add(func(x *api.State) { x.Pages = slices.Insert(x.Pages, 0, p) })
	}
	return list
}

func TestRightWrongByOneThing(t *testing.T) {
	for _, text := range rightOnes {
		for _, s := range wrongs(stateOf(clock(5, 2, 3), text)) {
			if want := isRight(s); Right(s) != want {
				t.Errorf("%s, config %v, queue %v ghosts %v: right %v, not %v", textOf(s), s.Config, s.Queue, s.Ghosts, !want, want)
			}
		}
	}
	if Right(api.State{}) {
		t.Error("the zero state is right")
	}
}

func TestRightEdgesOfConfigs(t *testing.T) {
	for most := 0; most <= 8; most++ {
		for quota := -1; quota <= 8; quota++ {
			for ghosts := -1; ghosts <= 3; ghosts++ {
				for target := -1; target <= 8; target++ {
					s := stateOf(clock(most, quota, ghosts), "h1 g4t h2 h3 c5 c6t | 1 0 0")
					s.Target = target
					if want := isRight(s); Right(s) != want {
						t.Errorf("%s of %v: right %v", textOf(s), s.Config, !want)
					}
				}
			}
		}
	}
}

// full makes a state of as many pages as may be: hot, cold and gone ones.
func full(most, target, ghosts int) api.State {
	s := api.State{Config: clock(most, 1, ghosts), Target: target}
	for i := range most - target {
		s.Pages = append(s.Pages, api.Page{Key: greatest - uint64(i), Kind: api.Hot, Mark: i%3 == 0})
	}
	for i := range ghosts {
		s.Pages = append(s.Pages, api.Page{Key: uint64(1000 + i), Kind: api.Gone, Test: true})
	}
	for i := range target {
		s.Pages = append(s.Pages, api.Page{Key: uint64(2000 + i), Kind: api.Cold, Test: i%2 == 0, Mark: i%5 == 1})
	}
	s.Cold, s.Test = len(s.Pages)-1, len(s.Pages)-2
	return s
}

func TestRightGreatest(t *testing.T) {
	for _, s := range []api.State{full(256, 1, 512), full(256, 255, 512), full(256, 128, 512), full(256, 100, 0), full(2, 1, 512), full(2, 1, 0)} {
		if !Right(s) || !isRight(s) {
			t.Errorf("a full state of %v is right", s.Config)
		}
		for _, kind := range []api.Kind{api.Hot, api.Cold, api.Gone} {
			x := copyOf(s)
			x.Pages = append(x.Pages, api.Page{Key: 7, Kind: kind, Test: kind == api.Gone})
			if Right(x) {
				t.Errorf("one page of kind %d more than may be, of %v", kind, s.Config)
			}
		}
		x := copyOf(s)
		last := len(x.Pages) - 1
		x.Pages[last] = api.Page{Key: 7, Kind: api.Hot}
		if Right(x) {
			t.Errorf("one hot page more than may be, of %v", s.Config)
		}
		x.Pages[last] = api.Page{Key: 7, Kind: api.Cold}
		x.Test = last + 1
		if Right(x) {
			t.Errorf("a hand past the end, of %v", s.Config)
		}
		for _, a := range []act{touch(greatest), admit(5), admit(1000), drop(2000), to(256, 255, 512), to(2, 1, 0)} {
			do(t, s, a)
		}
	}
}

func TestRightOfLongLists(t *testing.T) {
	long := api.State{Config: clock(256, 128, 512), Target: 1}
	for i := range 300000 {
		k := uint64(i)
		long.Queue = append(long.Queue, k)
		long.Ghosts = append(long.Ghosts, k)
		long.Pages = append(long.Pages, api.Page{Key: k, Kind: api.Cold})
	}
	queue, pages, ghosts := long, long, long
	queue.Pages, queue.Ghosts = nil, nil
	pages.Queue, pages.Ghosts = nil, nil
	ghosts.Pages, ghosts.Queue = nil, nil
	for i, s := range []api.State{long, queue, pages, ghosts} {
		if Right(s) || Kept(s, 1) {
			t.Errorf("long state %d is right", i)
		}
		if x, l, e := Resize(s, clock(2, 1, 0)); e != api.ErrState || len(l) > 0 || !same(x, s) {
			t.Errorf("long state %d is resized", i)
		}
		if x, ok := Touch(s, 1); ok || !same(x, api.State{}) {
			t.Errorf("long state %d is touched", i)
		}
	}
}

func TestKept(t *testing.T) {
	s := stateOf(clock(5, 2, 3), "h0 g4t c2 g18446744073709551615t c3tm h1m | 2 1 0")
	for key, want := range map[uint64]bool{0: true, 1: true, 2: true, 3: true, 4: false, greatest: false, 5: false, greatest - 1: false, 1 << 32: false} {
		if Kept(s, key) != want {
			t.Errorf("Kept(%d) is not %v", key, want)
		}
	}
	s = stateOf(clock(5, 2, 3), "h18446744073709551615 c0t | 2 1 0")
	if !Kept(s, greatest) || !Kept(s, 0) || Kept(s, 1) {
		t.Error("the greatest key is hot, 0 is cold")
	}
	for _, x := range wrongs(s) {
		if !isRight(x) && (Kept(x, greatest) || Kept(x, 0) || Kept(x, 50)) {
			t.Errorf("%s of %v is not right, and keeps something", textOf(x), x.Config)
		}
	}
	given := roomy(s)
	stood := copyOf(whole(given))
	if !Kept(given, 0) || !same(whole(given), stood) {
		t.Error("Kept changes a state")
	}
}

// P13.2

var touches = []row{
	{"hot, without Mark", clock(5, 2, 3), "h1 c2t h3m | 2 1 2", touch(1), "h1m c2t h3m | 2 1 2", "", true, "h"},
	{"hot, with a Mark", clock(5, 2, 3), "h1 c2t h3m | 2 1 2", touch(3), "h1 c2t h3m | 2 1 2", "", true, "h"},
	{"cold, in its Test", clock(5, 2, 3), "h1 c2t h3m | 2 1 2", touch(2), "h1 c2tm h3m | 2 1 2", "", true, "h"},
	{"cold, in its Test, with a Mark", clock(5, 2, 3), "h1 c2tm h3m | 2 1 2", touch(2), "h1 c2tm h3m | 2 1 2", "", true, "h"},
	{"cold, without Test", clock(5, 2, 3), "h1 c2 h3m | 2 1 2", touch(2), "h1 c2m h3m | 2 1 2", "", true, "h"},
	{"cold, without Test, with a Mark", clock(5, 2, 3), "h1 c2m h3m | 2 1 2", touch(2), "h1 c2m h3m | 2 1 2", "", true, "h"},
	{"gone", clock(5, 2, 3), "h1 g2t h3m | 2 1 2", touch(2), "h1 g2t h3m | 2 1 2", "", false, ""},
	{"strange", clock(5, 2, 3), "h1 g2t h3m | 2 1 2", touch(4), "h1 g2t h3m | 2 1 2", "", false, ""},
	{"of nothing", clock(5, 2, 3), "| 2 0 0", touch(0), "| 2 0 0", "", false, ""},
	{"the only page", clock(5, 2, 3), "c7t | 4 0 0", touch(7), "c7tm | 4 0 0", "", true, "h"},
	{"key 0", clock(2, 1, 0), "c0t h18446744073709551615 | 1 0 1", touch(0), "c0tm h18446744073709551615 | 1 0 1", "", true, "h"},
	{"the greatest key", clock(2, 1, 0), "c0t h18446744073709551615 | 1 0 1", touch(greatest), "c0t h18446744073709551615m | 1 0 1", "", true, "h"},
}

func TestTouch(t *testing.T) {
	for _, r := range touches {
		r.run(t)
	}
}

// P13.3

var admits = []row{
	{"kept, hot", clock(5, 2, 3), "h1 c2t g3t | 2 1 2", admit(1), "h1 c2t g3t | 2 1 2", "", false, ""},
	{"kept, cold, in its Test", clock(5, 2, 3), "h1 c2t g3t | 2 1 2", admit(2), "h1 c2t g3t | 2 1 2", "", false, ""},
	{"kept, cold, with a Mark", clock(5, 2, 3), "h1 c2m g3t | 2 1 2", admit(2), "h1 c2m g3t | 2 1 2", "", false, ""},
	{"new, of nothing", clock(5, 2, 3), "| 2 0 0", admit(0), "c0t | 2 0 0", "", true, "m"},
	{"new, behind one page", clock(5, 2, 3), "h1 | 4 0 0", admit(2), "h1 c2t | 4 0 0", "", true, "m"},
	{"new, not full, gone pages as many as may be", clock(5, 2, 3), "g1t h2 g3t c4t h5m g6t c7 | 2 3 0", admit(8), "g1t h2 g3t c4t h5m g6t c7 c8t | 2 3 0", "", true, "m"},
	{"new, full, the cold hand at a page in its Test", clock(5, 2, 3), "h1 c2t h3 c4 c5t | 2 1 3", admit(6), "h1 g2t h3 c4 c5t c6t | 2 2 3", "2", true, "me1"},
	{"new, full, the cold hand at a page without Test", clock(5, 2, 3), "h1 c2t h3 c4 c5t | 2 3 3", admit(6), "h1 c2t h3 c5t c6t | 2 3 3", "4", true, "me1"},
	{"new, full, the cold hand at the last page, in its Test", clock(5, 2, 3), "h1 c2t h3 c4 c5t | 2 4 0", admit(6), "h1 c2t h3 c4 g5t c6t | 2 0 0", "5", true, "me1"},
	{"new, full, the cold hand at the last page, without Test", clock(5, 2, 3), "h1 c2t h3 c4t c5 | 2 4 4", admit(6), "h1 c2t h3 c4t c6t | 2 0 0", "5", true, "me1"},
	{"new, full, the cold hand passes over hot and gone pages", clock(5, 2, 3), "h1 c2t h3m g6t h4 g7t c5t | 2 2 0", admit(8), "h1 c2t h3m g6t h4 g7t g5t c8t | 2 0 0", "5", true, "me5"},
	{"new, full, it passes over the last page to the first one", clock(5, 2, 3), "c1 h2 h3 c4t h5m | 2 4 2", admit(6), "h2 h3 c4t h5m c6t | 2 0 1", "1", true, "me2"},
	{"new, a Mark, in its Test, no page is cooled", clock(5, 2, 3), "h1 c2tm c3t c4t c5t | 2 1 0", admit(6), "h1 g3t c4t c5t h2 c6t | 3 2 0", "3", true, "mrec2"},
	{"new, a Mark, in its Test, a page is cooled", clock(5, 2, 3), "h1 c2tm h3 c4t h5 | 2 1 0", admit(6), "c4t h5 h2 c1 c6t | 3 0 3", "3", true, "mrllec4"},
	{"new, a Mark, in its Test, two pages are cooled", clock(5, 2, 3), "h1m c2tm h3 h4 c5t | 2 1 4", admit(6), "c5t h2 h1 c4 c6t | 3 3 0", "3", true, "mrllecc5"},
	{"new, a Mark, in its Test, the target at its greatest", clock(5, 2, 3), "h1 c2tm c3 c4t c5t | 4 1 0", admit(6), "c4t c5t h2 c1 c6t | 4 0 3", "3", true, "mrlec3"},
	{"new, a Mark, in its Test, a test ends, a page is cooled", clock(6, 2, 3), "c1t c2tm h3 h4 c5t g6t g7t h8 | 3 1 2", admit(9), "h4 c5t g6t g7t h8 h2 c1 c9t | 3 0 0", "3", true, "mrlecd4"},
	{"new, a Mark, without Test", clock(5, 2, 3), "h1 c2m c3t c4t c5t | 2 1 0", admit(6), "h1 g3t c4t c5t c2t c6t | 2 2 0", "3", true, "mec2"},
	{"new, a Mark, without Test, at the hot hand", clock(5, 2, 3), "c2m c3t c4t c5t h1 | 2 0 0", admit(6), "g3t c4t c5t h1 c2t c6t | 2 1 0", "3", true, "mec2"},
	{"new, Marks in their Test and not", clock(6, 2, 3), "h1 c2tm c3m c4tm c5t h6 | 2 1 2", admit(7), "h6 h2 c3t h4 c1 c7t | 3 0 0", "5", true, "mrrlecccd6"},
	{"new, once around and on, Marks without Test", clock(5, 2, 3), "c1m c2m c3m c4m c5m | 1 0 3", admit(6), "g1t c2t c3t c4t c5t c6t | 1 1 0", "1", true, "meccccc6"},
	{"new, once around and on, Marks in their Test", clock(5, 2, 3), "c1tm c2tm c3tm c4tm c5tm | 1 0 0", admit(6), "h1 h2 h3 g4t c5t c6t | 2 4 3", "4", true, "mrrrecccccdd8"},
	{"new, once around and on, hot pages with Marks between", clock(4, 1, 3), "h1m c2m h3m h4m | 1 0 1", admit(5), "h1m h3m h4m g2t c5t | 1 0 1", "2", true, "mec5"},
	{"new, of two pages, both with a Mark", clock(2, 1, 2), "h1m c2tm | 1 1 1", admit(3), "h1 c3t | 1 0 0", "2", true, "mrlecc5"},
	{"new, of two cold pages, both with a Mark", clock(2, 1, 2), "c1m c2tm | 1 0 1", admit(3), "g1t h2 c3t | 1 1 0", "1", true, "mrecc3"},
	{"new, no ghosts", clock(3, 1, 0), "c1t c2t h3 | 1 0 0", admit(4), "c2t h3 c4t | 1 0 0", "1", true, "mef2"},
	{"new, no ghosts, the test hand comes around", clock(3, 1, 0), "c1t c2t h3 | 2 0 1", admit(4), "c2 h3 c4t | 1 0 0", "1", true, "mefd4"},
	{"new, no ghosts, without Test", clock(3, 1, 0), "c1 c2t h3 | 2 0 2", admit(4), "c2t h3 c4t | 2 0 1", "1", true, "me1"},
	{"new, one ghost too many, at the test hand", clock(5, 2, 2), "g1t h2 g3t c4t c5 h6 c7t | 3 3 0", admit(8), "h2 g3t g4t c5 h6 c7t c8t | 2 3 0", "4", true, "mef2"},
	{"new, tests end ahead of a ghost", clock(5, 2, 2), "h2 c4t c5t c7t h6 g1t g3t | 3 3 0", admit(8), "h2 c4 c5 h6 g1t g3t c8t | 1 3 3", "7", true, "mefdd5"},
	{"new, tests end, and the page that was evicted is forgotten", clock(5, 2, 1), "h1 c2t c3 c4tm c5t g6t | 3 4 0", admit(7), "h1 c2 c3 c4m g6t c7t | 1 4 4", "5", true, "mefdd6"},
	{"new, tests end at the least target", clock(5, 2, 2), "h2 c4t c5t c7t h6 g1t g3t | 1 3 0", admit(8), "h2 c4 c5 h6 g1t g3t c8t | 1 3 3", "7", true, "mefdd5"},
	{"new, the other hands at what the cold hand lets leave", clock(5, 2, 3), "c1 h2 c3t c4t h5 | 2 0 0", admit(6), "h2 c3t c4t h5 c6t | 2 0 0", "1", true, "me1"},
	{"new, the test hand at what the cold hand puts at the head", clock(5, 2, 3), "h1 h2 c3m c4t c5t | 2 2 2", admit(6), "h1 h2 g4t c5t c3t c6t | 2 3 2", "4", true, "mec2"},
	{"new, the hot hand at what the cold hand puts at the head", clock(5, 2, 3), "c3tm h1 h2 c4t c5t | 2 0 0", admit(6), "h2 c4t c5t h3 c6t | 3 0 0", "1", true, "mrlec3"},
	{"new, all hands at the page that becomes hot", clock(3, 1, 3), "c3tm h1 h2 | 1 0 0", admit(6), "h3 c2 c6t | 2 1 1", "1", true, "mrllec4"},
	{"new, the cold hand at what the hot hand lets leave", clock(4, 1, 3), "h1m c2tm g3t h4 h5 | 1 1 3", admit(6), "h5 h2 h1 c6t | 1 0 0", "4", true, "mrlefcc5"},
	{"new, the other hands at what the test hand lets leave", clock(4, 2, 1), "g1t h2 c3t c4t c5 | 2 2 0", admit(6), "h2 g3t c4t c5 c6t | 1 2 0", "3", true, "mef2"},
	{"new, all hands at what the test hand lets leave", clock(3, 1, 1), "h1 h2 c3t g4t | 1 2 3", admit(5), "h1 h2 g3t c5t | 1 0 0", "3", true, "mef2"},
	{"gone, the target below its greatest, none is cooled", clock(5, 2, 3), "h1 g2t c3t | 2 0 0", admit(2), "h1 c3t h2 | 3 0 0", "", true, "mr"},
	{"gone, the target below its greatest, one is cooled behind all", clock(5, 2, 3), "h1 g2t h3 c4t | 2 0 0", admit(2), "h3 c4t h2 c1 | 3 3 3", "", true, "mrl1"},
	{"gone, the target below its greatest, two are cooled", clock(5, 2, 3), "h1 g2t h3 c4t h5 | 2 0 0", admit(2), "c4t h5 c1 h2 c3 | 3 2 2", "", true, "mrll2"},
	{"gone, the target at its greatest", clock(5, 2, 3), "h1 g2t c3t | 4 2 2", admit(2), "c3t h2 c1 | 4 0 0", "", true, "mrl1"},
	{"gone, the target at its greatest, no hot page", clock(5, 2, 3), "c1t g2t c3t | 4 2 2", admit(2), "c1t c3t h2 | 4 1 1", "", true, "mr"},
	{"gone, full, one is cooled, a Mark is cleared", clock(5, 2, 3), "h1m g2t h3 c4t h5m c6t | 2 5 0", admit(2), "h5m g6t h1 c3 h2 c4 | 2 2 2", "6", true, "mrlecd4"},
	{"gone, full, a test ends, a ghost is forgotten", clock(5, 2, 3), "c6t g7t h1 g2t h3 c4t h5 | 2 0 1", admit(2), "h1 h3 c4t h5 h2 | 1 0 0", "6", true, "mrefd3"},
	{"gone, full, what is cooled first is evicted", clock(5, 2, 3), "h1 g2t h3 c4m h5 c6m | 2 0 0", admit(2), "c4m h5 c6m h2 c3 | 3 4 4", "1", true, "mrlle3"},
	{"gone, all hands at it", clock(5, 2, 3), "g2t h3 c4t | 2 0 0", admit(2), "h3 c4t h2 | 3 0 0", "", true, "mr"},
	{"gone, the last page, the hands at it", clock(5, 2, 3), "h3 c4t g2t | 2 2 2", admit(2), "h3 c4t h2 | 3 0 0", "", true, "mr"},
	{"gone, the only page", clock(5, 2, 3), "g2t | 1 0 0", admit(2), "h2 | 2 0 0", "", true, "mr"},
	{"gone, of two pages", clock(2, 1, 1), "h1 g2t c3t | 1 2 0", admit(2), "g3t h2 c1 | 1 2 2", "3", true, "mrle2"},
	{"gone, of two pages, the hot one has a Mark", clock(2, 1, 1), "h1m g2t c3tm | 1 2 0", admit(2), "h2 c1 | 1 1 1", "3", true, "mrrllecc6"},
	{"gone, key 0", clock(2, 1, 2), "g0t c18446744073709551615t h5 | 1 1 1", admit(0), "h0 c5 | 1 1 1", "18446744073709551615", true, "mrlef3"},
	{"gone, the greatest key", clock(2, 1, 2), "g18446744073709551615t c0t h5 | 1 1 1", admit(greatest), "h18446744073709551615 c5 | 1 1 1", "0", true, "mrlef3"},
}

func TestAdmit(t *testing.T) {
	for _, r := range admits {
		r.run(t)
	}
}

// P13.4

var drops = []row{
	{"hot, no hand at it", clock(5, 2, 3), "c4t h1 c2t g3t | 2 0 3", drop(1), "c4t c2t g3t | 2 0 2", "", true, ""},
	{"hot, the hot hand at it", clock(5, 2, 3), "h1 c2t g3t | 2 1 2", drop(1), "c2t g3t | 2 0 1", "", true, ""},
	{"hot, the cold hand at it", clock(5, 2, 3), "c4t h1 c2t g3t | 2 1 2", drop(1), "c4t c2t g3t | 2 1 1", "", true, ""},
	{"hot, the test hand at it", clock(5, 2, 3), "c4t h1 c2t g3t | 2 2 1", drop(1), "c4t c2t g3t | 2 1 1", "", true, ""},
	{"hot, the last page, the cold hand at it", clock(5, 2, 3), "c4t c2t h1 | 2 2 1", drop(1), "c4t c2t | 2 0 1", "", true, ""},
	{"hot, the last page, the test hand at it", clock(5, 2, 3), "c4t c2t h1 | 2 1 2", drop(1), "c4t c2t | 2 1 0", "", true, ""},
	{"cold, no hand at it", clock(5, 2, 3), "h1 c2t g3t h4 | 2 3 2", drop(2), "h1 g3t h4 | 2 2 1", "", true, ""},
	{"cold, the cold hand at it", clock(5, 2, 3), "h1 c2tm g3t h4 | 2 1 0", drop(2), "h1 g3t h4 | 2 1 0", "", true, ""},
	{"cold, all hands at it", clock(5, 2, 3), "c2 g3t h4 | 2 0 0", drop(2), "g3t h4 | 2 0 0", "", true, ""},
	{"cold, the last page, two hands at it", clock(5, 2, 3), "h4 g3t c2 | 2 2 2", drop(2), "h4 g3t | 2 0 0", "", true, ""},
	{"gone, no hand at it", clock(5, 2, 3), "h1 c2t g3t h4 | 2 3 1", drop(3), "h1 c2t h4 | 2 2 1", "", false, ""},
	{"gone, the test hand at it", clock(5, 2, 3), "h1 c2t g3t h4 | 2 0 2", drop(3), "h1 c2t h4 | 2 0 2", "", false, ""},
	{"gone, the hot hand at it", clock(5, 2, 3), "g3t h4 c2t | 2 1 2", drop(3), "h4 c2t | 2 0 1", "", false, ""},
	{"gone, all hands at it", clock(5, 2, 3), "g3t h4 c2t | 1 0 0", drop(3), "h4 c2t | 1 0 0", "", false, ""},
	{"strange", clock(5, 2, 3), "h1 c2t g3t h4 | 2 3 2", drop(9), "h1 c2t g3t h4 | 2 3 2", "", false, ""},
	{"of nothing", clock(5, 2, 3), "| 2 0 0", drop(0), "| 2 0 0", "", false, ""},
	{"hot, the only page", clock(5, 2, 3), "h1m | 4 0 0", drop(1), "| 4 0 0", "", true, ""},
	{"cold, the only page", clock(5, 2, 3), "c1t | 1 0 0", drop(1), "| 1 0 0", "", true, ""},
	{"gone, the only page", clock(5, 2, 3), "g1t | 2 0 0", drop(1), "| 2 0 0", "", false, ""},
	{"of two pages", clock(5, 2, 3), "h1 c2 | 2 1 1", drop(2), "h1 | 2 0 0", "", true, ""},
	{"key 0", clock(2, 1, 2), "h18446744073709551615 c0t | 1 1 0", drop(0), "h18446744073709551615 | 1 0 0", "", true, ""},
	{"the greatest key", clock(2, 1, 2), "h18446744073709551615 c0t | 1 1 0", drop(greatest), "c0t | 1 0 0", "", true, ""},
}

func TestDrop(t *testing.T) {
	for _, r := range drops {
		r.run(t)
	}
}

var resizes = []row{
	{"to the same", clock(5, 2, 3), "h1 c2t g3t h4m | 2 3 2", to(5, 2, 3), "h1 c2t g3t h4m | 2 3 2", "", false, ""},
	{"to the same, the target becomes the quota, rising", clock(5, 3, 3), "h1 c2t g3t h4m | 1 3 2", to(5, 3, 3), "h1 c2t g3t h4m | 3 3 2", "", false, ""},
	{"to the same, the target becomes the quota, falling", clock(5, 1, 3), "h1 c2t g3t c4m | 4 3 2", to(5, 1, 3), "h1 c2t g3t c4m | 1 3 2", "", false, ""},
	{"of nothing", clock(5, 2, 3), "| 4 0 0", to(2, 1, 0), "| 1 0 0", "", false, ""},
	{"more of all", clock(5, 2, 3), "h1 c2t g3t h4m | 2 3 2", to(256, 3, 512), "h1 c2t g3t h4m | 3 3 2", "", false, ""},
	{"less Cap", clock(6, 2, 3), "h1 c2t h3m c4 h5 c6tm | 2 1 3", to(4, 2, 3), "g2t h3m h5 c6tm c1 | 2 2 2", "2 4", false, "lee4"},
	{"less Cap, many go", clock(6, 1, 3), "h1 h2 h3 h4 h5 c6 | 1 5 0", to(2, 1, 3), "h5 c4 | 1 1 1", "6 1 2 3", false, "lllleeee8"},
	{"less Cap, as many are kept", clock(6, 2, 3), "h1 c2t h3 | 2 1 2", to(3, 1, 3), "h1 c2t h3 | 1 1 2", "", false, ""},
	{"less Cap, in the ring's order from the cold hand on", clock(6, 5, 3), "c1t c2t c3t c4t c5t c6t | 5 3 0", to(3, 1, 3), "c1t c2t c3t g4t g5t g6t | 1 0 0", "4 5 6", false, "eee3"},
	{"less Cap, in the ring's order, without Test", clock(6, 5, 3), "c1 c2 c3 c4 c5 c6 | 5 4 5", to(3, 1, 3), "c2 c3 c4 | 1 0 0", "5 6 1", false, "eee3"},
	{"less Cap, a Mark spares one", clock(6, 5, 3), "c1t c2tm c3t c4t c5t c6t | 5 0 0", to(3, 1, 3), "g1t g3t g4t c5t c6t h2 | 2 3 0", "1 3 4", false, "reeec4"},
	{"more Quota", clock(5, 1, 3), "h1m c2t h3 g4t h5 h6 | 1 1 3", to(5, 3, 3), "g4t h5 h6 h1 c2 c3 | 2 4 0", "", false, "lcd3"},
	{"more Quota, the hot hand ends tests", clock(5, 1, 3), "c2t h1 h3 g4t h5 h6 | 1 1 3", to(5, 4, 3), "g4t h5 h6 c2 c1 c3 | 3 4 0", "", false, "lld3"},
	{"less Quota", clock(5, 3, 3), "h1 c2t h3 g4t c5 | 3 1 3", to(5, 1, 3), "h1 c2t h3 g4t c5 | 1 1 3", "", false, ""},
	{"less Ghosts", clock(5, 2, 3), "h1 g2t c3t g4t c5 g6t | 2 2 3", to(5, 2, 1), "h1 g2t c3t c5 | 1 2 0", "", false, "ff3"},
	{"no ghosts", clock(5, 2, 3), "h1 g2t c3t g4t c5 g6t | 2 2 3", to(5, 2, 0), "h1 c3t c5 | 1 1 1", "", false, "fff5"},
	{"no ghosts, at the least target", clock(5, 1, 3), "h1 g2t c3t g4t c5 g6t | 1 2 1", to(5, 1, 0), "h1 c3 c5 | 1 1 0", "", false, "fffd5"},
	{"no ghosts, nothing is kept", clock(5, 4, 3), "g2t g4t g6t | 4 1 2", to(2, 1, 0), "| 1 0 0", "", false, "fff3"},
	{"less Cap, more Quota, no ghosts", clock(6, 1, 2), "h1 h2m c3t g4t h5 h6 g7t h8 | 1 2 6", to(3, 2, 0), "h8 c1 h2 | 1 0 0", "3 5 6", false, "llleeeffcd10"},
	{"more Cap, less Ghosts", clock(2, 1, 3), "h0 g2t g3t c18446744073709551615 g4t | 1 3 4", to(256, 255, 1), "h0 g3t c18446744073709551615 | 253 2 1", "", false, "ff3"},
	{"key 0 and the greatest one evicted", clock(4, 3, 3), "c0t h1 c18446744073709551615 c5t | 3 0 0", to(2, 1, 3), "g0t h1 c5t | 1 2 0", "0 18446744073709551615", false, "ee3"},
}

func TestResize(t *testing.T) {
	for _, r := range resizes {
		r.run(t)
	}
}

func TestResizeErrors(t *testing.T) {
	right := stateOf(clock(5, 2, 3), "h1 c2t g3t c4m h5m | 3 2 4")
	right.Counts = noted
	for _, c := range badConfigs() {
		if r := do(t, right, resize(c)); r.errno != api.ErrConfig || !same(r.state, right) || len(r.evicted) > 0 {
			t.Errorf("to %v: %d, %s", c, r.errno, textOf(r.state))
		}
	}
	for _, s := range append(wrongs(right), api.State{}, api.State{Counts: noted}) {
		if isRight(s) {
			continue
		}
		for _, c := range []api.Config{s.Config, clock(5, 2, 3), clock(2, 1, 0), {}, clock(1, 1, 0), {Policy: api.Lirs, Cap: 5, Quota: 2}} {
			if r := do(t, s, resize(c)); r.errno != api.ErrState || !same(r.state, s) || len(r.evicted) > 0 {
				t.Errorf("of %s, to %v: %d", textOf(s), c, r.errno)
			}
		}
	}
}

func TestNotRight(t *testing.T) {
	right := stateOf(clock(5, 2, 3), "h1 c2t g3t c4m h5m | 3 2 4")
	right.Counts = noted
	for _, s := range append(wrongs(right), api.State{}, api.State{Counts: noted}) {
		if isRight(s) {
			continue
		}
		for _, key := range []uint64{0, 1, 2, 3, 4, 5, 6, 50, greatest} {
			for _, a := range []act{touch(key), admit(key), drop(key)} {
				if r := do(t, s, a); r.ok || len(r.evicted) > 0 || !same(r.state, api.State{}) {
					t.Errorf("%v of %s: %v %s", a, textOf(s), r.ok, textOf(r.state))
				}
			}
		}
	}
}

// P13.1 to P13.5

// someConfigs are what states are resized to.
var someConfigs = []api.Config{
	clock(2, 1, 0), clock(2, 1, 1), clock(3, 1, 0), clock(3, 2, 1), clock(3, 1, 3), clock(4, 1, 2), clock(4, 2, 1), clock(4, 3, 0), clock(5, 2, 3), clock(256, 255, 512), clock(256, 1, 0), clock(4, 4, 1), {Policy: api.Lirs, Cap: 3, Quota: 1},
}

// allActs does all that may be done with a state, and tells what comes of it.
func allActs(t *testing.T, s api.State, keys int) []api.State {
	t.Helper()
	var list []api.State
	for k := range uint64(keys) {
		for _, a := range []act{touch(k), admit(k), drop(k)} {
			list = append(list, do(t, s, a).state)
		}
	}
	for _, c := range someConfigs {
		list = append(list, do(t, s, resize(c)).state)
	}
	return list
}

// rings tells all rings of so many pages, of which each stands in one of the
// ways; their keys are 0, 1 and so on.
func rings(length int, ways []api.Page) [][]api.Page {
	all := [][]api.Page{nil}
	for i := range length {
		var longer [][]api.Page
		for _, ring := range all {
			for _, p := range ways {
				p.Key = uint64(i)
				longer = append(longer, append(slices.Clone(ring), p))
			}
		}
		all = longer
	}
	return all
}

// ways tells how a page may stand, of kinds of which some are none.
func ways(kinds ...api.Kind) []api.Page {
	var list []api.Page
	for _, kind := range kinds {
		for n := range 4 {
			list = append(list, api.Page{Kind: kind, Test: n&1 > 0, Mark: n&2 > 0})
		}
	}
	return list
}

func TestAllSmallStates(t *testing.T) {
	good := []api.Page{{Kind: 1}, {Kind: 1, Mark: true}, {Kind: 2}, {Kind: 2, Test: true}, {Kind: 2, Mark: true}, {Kind: 2, Test: true, Mark: true}, {Kind: 3, Test: true}}
	for _, c := range []api.Config{clock(2, 1, 1), clock(3, 1, 2), clock(3, 2, 0), clock(4, 1, 1)} {
		right := 0
		for length := range 4 {
			for _, ring := range rings(length, good) {
				for n := range length*length*(c.Cap-1) + 1 {
					s := api.State{Config: c, Target: 1, Pages: ring, Counts: noted}
					if length > 0 {
						s.Target, s.Cold, s.Test = 1+n/length/length, n/length%length, n%length
					}
					if isRight(s) {
						right++
						allActs(t, s, 4)
					}
				}
			}
		}
		if right < 100 {
			t.Errorf("%v: only %d states are right", c, right)
		}
	}
}

func TestAllSmallStatesRightOrNot(t *testing.T) {
	for _, c := range []api.Config{clock(2, 1, 1), clock(3, 1, 2), clock(3, 2, 0), clock(3, 3, 3)} {
		right := 0
		for length := range 3 {
			for _, ring := range rings(length, ways(0, 1, 2, 3, 4)) {
				for n := range 5 * 5 * 5 {
					s := api.State{Config: c, Target: n/25 - 1, Pages: ring, Cold: n/5%5 - 1, Test: n%5 - 1}
					want := isRight(s)
					if Right(s) != want {
						t.Fatalf("%s of %v: right %v", textOf(s), c, !want)
					}
					if want {
						right++
					}
					for k := range uint64(3) {
						if Kept(s, k) != (want && modelOf(s).keeps(k)) {
							t.Fatalf("%s of %v: kept %d", textOf(s), c, k)
						}
					}
				}
			}
		}
		if mayBe(c) != (right > 50) {
			t.Errorf("%v: %d states are right", c, right)
		}
	}
}

func TestAllThatComes(t *testing.T) {
	for _, c := range []api.Config{clock(2, 1, 1), clock(3, 1, 2), clock(4, 2, 2)} {
		s, _ := New(c)
		met := map[string]bool{}
		left := []api.State{s}
		for len(left) > 0 && len(met) < 4000 {
			s, left = left[0], left[1:]
			s.Counts = noted
			name := textOf(s) + configText(s.Config)
			if met[name] {
				continue
			}
			met[name] = true
			left = append(left, allActs(t, s, 6)...)
		}
		if len(met) < 4000 {
			t.Errorf("%v: only %d states come", c, len(met))
		}
	}
}

// dice throws numbers, the same ones each time.
type dice uint64

func (d *dice) below(n int) int {
	*d = *d*6364136223846793005 + 1442695040888963407
	return int(uint64(*d) >> 33 % uint64(n))
}

// nameOf tells a key of a number: some are at the ends, or far apart.
func nameOf(n int) uint64 {
	switch n {
	case 0:
		return 0
	case 1:
		return greatest
	case 2:
		return 1 << 63
	case 3:
		return 1 << 32
	}
	return uint64(n) * 0x9e3779b97f4a7c15
}

// ask touches a key that is kept, and admits another one.
func ask(s api.State, key uint64) act {
	if Kept(s, key) {
		return touch(key)
	}
	return admit(key)
}

// keepsBounds looks whether counts keep what P13.7 promises, of configs whose
// Cap and Ghosts are together at most so many.
func keepsBounds(t *testing.T, c api.Counts, most int) {
	t.Helper()
	asked := c.Hits + c.Misses
	did := c.Cleared + c.Lowered + c.Ended + c.Forgotten + c.Evicted
	if c.Cleared > c.Hits || c.Evicted > c.Misses || c.Raised > asked || c.Lowered > asked || c.Forgotten > c.Evicted || c.Ended > asked ||
		did > 4*asked || c.Steps > did*uint64(most) || c.Pruned != 0 {
		t.Fatalf("counts %+v of at most %d pages", c, most)
	}
}

// P13.2 to P13.7

func TestManyActs(t *testing.T) {
	for seed, c := range []api.Config{clock(2, 1, 0), clock(2, 1, 3), clock(3, 1, 2), clock(5, 2, 0), clock(5, 4, 5), clock(10, 3, 7), clock(30, 5, 60)} {
		d := dice(seed + 1)
		s, _ := New(c)
		most := c.Cap + c.Ghosts
		for range 4000 {
			key := nameOf(d.below(2*c.Cap + c.Ghosts/2 + 3))
			a := ask(s, key)
			switch d.below(24) {
			case 0:
				a = drop(key)
			case 1:
				a = touch(key)
			case 2:
				a = admit(key)
			case 3:
				n := 2 + d.below(2*c.Cap)
				a = to(n, 1+d.below(n-1), d.below(2*c.Ghosts+2))
				most = max(most, n+a.config.Ghosts)
			case 4:
				a = resize(c)
			}
			s = do(t, s, a).state
			keepsBounds(t, s.Counts, most)
		}
	}
}

func TestGreatestCap(t *testing.T) {
	for _, c := range []api.Config{clock(256, 64, 512), clock(256, 1, 100), clock(256, 255, 512)} {
		d := dice(c.Quota)
		s, _ := New(c)
		longest := 0
		for i := range 2500 {
			a := ask(s, nameOf(d.below(900)))
			if i%3 == 0 {
				a = ask(s, nameOf(i%300))
			}
			if i%100 == 99 {
				a = drop(nameOf(d.below(900)))
			}
			if i%500 == 400 {
				a = to(256-d.below(100), 1+d.below(150), d.below(513))
			}
			if i%500 == 410 {
				a = resize(c)
			}
			s = do(t, s, a).state
			keepsBounds(t, s.Counts, 768)
			longest = max(longest, len(s.Pages))
		}
		if longest < 300 {
			t.Errorf("%v: at most %d pages", c, longest)
		}
	}
}

// The target goes all the way up and down, and stands still at both ends.
func TestTarget(t *testing.T) {
	for _, c := range []api.Config{clock(2, 1, 2), clock(3, 1, 3), clock(6, 5, 6), clock(6, 1, 6)} {
		s, _ := New(c)
		d := dice(c.Cap)
		at := map[int]int{}
		for i := range 3000 {
			key := uint64(d.below(c.Cap + c.Ghosts + 2))
			if i%200 > 100 {
				key = uint64(1000 + i)
			}
			s = do(t, s, ask(s, key)).state
			at[s.Target]++
		}
		for target := 1; target < c.Cap; target++ {
			if at[target] == 0 {
				t.Errorf("%v: the target is never %d", c, target)
			}
		}
		if len(at) != c.Cap-1 {
			t.Errorf("%v: targets %v", c, at)
		}
	}
}

// For each thing that a hand does it looks at no more pages than may be, and it
// looks at none for nothing.
func TestFewLooks(t *testing.T) {
	c := clock(20, 5, 30)
	s, _ := New(c)
	d := dice(7)
	for range 3000 {
		a := ask(s, uint64(d.below(60)))
		m := modelOf(s)
		if a.name == "touch" {
			m.touch(a.key)
		} else {
			m.admit(a.key)
		}
		s = do(t, s, a).state
		if m.mostLooksForADeed > c.Cap+c.Ghosts || m.looksSinceDeed != 0 {
			t.Fatalf("%v: %d looks for one thing done, %d for none", a, m.mostLooksForADeed, m.looksSinceDeed)
		}
	}
}

// P13.6

func TestScan(t *testing.T) {
	for _, text := range []string{"h1 h2 h3m c4 c5t | 2 3 4", "c5t h1 g7t h2m g6t h3 c4 | 2 0 0", "h1 h2 h3 | 2 0 0", "h1m g6t h2m g7t h3m g8t c4t c5 | 2 7 1", "c4t c5t h1 h2 h3 g8t | 1 5 5"} {
		for _, ghosts := range []int{3, 4, 100, 512} {
			s := stateOf(clock(5, 2, ghosts), text)
			marks := s.Pages
			for i := range 700 {
				key := uint64(1000 + i)
				if i%40 == 39 {
					key = greatest - uint64(i)
				}
				r := do(t, s, admit(key))
				s = r.state
				if !r.ok || count(s.Pages, api.Hot) != 3 || s.Counts.Raised != 0 || s.Counts.Lowered != 0 || s.Counts.Cleared != 0 {
					t.Fatalf("a scan of %s, step %d: %s", text, i, textOf(s))
				}
				for _, p := range marks {
					if p.Kind == api.Hot && !slices.Contains(s.Pages, p) {
						t.Fatalf("a scan of %s, step %d: hot key %d goes: %s", text, i, p.Key, textOf(s))
					}
				}
			}
		}
	}
}

func TestScanWithoutGhosts(t *testing.T) {
	s := stateOf(clock(4, 1, 0), "h1 c4t h2m c3 | 2 1 0")
	for i := range 300 {
		s = do(t, s, admit(uint64(100+i))).state
		if !slices.Contains(s.Pages, api.Page{Key: 1, Kind: api.Hot}) || !slices.Contains(s.Pages, api.Page{Key: 2, Kind: api.Hot, Mark: true}) {
			t.Fatalf("step %d: %s", i, textOf(s))
		}
	}
}

// Counts that stand at their greatest number go round.
func TestCountsGoRound(t *testing.T) {
	g := greatest
	s := stateOf(clock(6, 1, 2), "h1 h2m c3t g4t h5 h6 g7t h8 | 1 2 6")
	s.Counts = api.Counts{Hits: g, Misses: g, Raised: g, Lowered: g, Pruned: g, Evicted: g, Forgotten: g, Cleared: g, Ended: g, Steps: g}
	if r := do(t, s, to(3, 2, 0)); r.state.Counts != (api.Counts{Hits: g, Misses: g, Raised: g, Lowered: 2, Pruned: g, Evicted: 2, Forgotten: 1, Steps: 9}) {
		t.Errorf("counts %+v", r.state.Counts)
	}
	if r := do(t, s, touch(2)); r.state.Counts.Hits != 0 {
		t.Error("hits")
	}
	if r := do(t, s, admit(7)); r.state.Counts.Misses != 0 || r.state.Counts.Raised != 0 {
		t.Error("misses, raised")
	}
}

// P13.3: the example of the document.
func TestExample(t *testing.T) {
	s, _ := New(clock(3, 1, 2))
	for i, x := range []struct {
		key           uint64
		evicted, want string
	}{{1, "", "c1t | 1 0 0"}, {2, "", "c1t c2t | 1 0 0"}, {3, "", "c1t c2t c3t | 1 0 0"}, {1, "", "c1tm c2t c3t | 1 0 0"}, {4, "2", "g2t c3t h1 c4t | 2 1 0"}} {
		r := do(t, s, ask(s, x.key))
		s = r.state
		if !r.ok || !slices.Equal(r.evicted, keysIn(x.evicted)) || textOf(s) != x.want {
			t.Errorf("step %d: %s evicted %v", i, textOf(s), r.evicted)
		}
	}
}

// FuzzWheel does with a state what bytes tell, two a step.
func FuzzWheel(f *testing.F) {
	f.Add([]byte{1, 1, 2, 2, 3, 3, 4, 4, 4, 4, 200, 2, 230, 9, 2, 2})
	f.Add([]byte("the quick brown fox jumps over the lazy dog, and back again over the fox"))
	f.Fuzz(func(t *testing.T, script []byte) {
		s, _ := New(clock(5, 2, 3))
		for i := 0; i+1 < len(script) && i < 2000; i += 2 {
			how, n := script[i], int(script[i+1])
			key := nameOf(n % 16)
			a := ask(s, key)
			switch {
			case how >= 240:
				most := 2 + n%9
				a = to(most, 1+n%(most-1), n/16)
			case how >= 220:
				a = drop(key)
			case how >= 210:
				a = admit(key)
			case how >= 200:
				a = touch(key)
			}
			s = do(t, s, a).state
			keepsBounds(t, s.Counts, 10+15)
		}
	})
}
