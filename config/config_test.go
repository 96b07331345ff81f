package config

import (
	"math"
	"math/big"
	"regexp"
	"slices"
	"strconv"
	"strings"
	"testing"

	"hutch/api"
)

// four are the policies, in the order of their numbers from 1 on, with their
// names written out.
var four = []struct {
	policy api.Policy
	name   string
}{{1, "lirs"}, {2, "clock"}, {3, "lru"}, {4, "second"}}

// far are numbers of which none is good anywhere, though some would be if only
// their lowest bits were looked at.
var far = []int{
	math.MinInt, math.MinInt + 1, math.MinInt + 2, -1 << 62, -1<<32 + 2, -1 << 32, math.MinInt32, -65534, -513, -512, -257, -256, -255, -5, -4, -3, -2, -1,
	514, 1023, 1024, 1<<16 + 1, 1<<16 + 4, math.MaxInt32, 1 << 31, 1<<32 - 1, 1 << 32, 1<<32 + 1, 1<<32 + 2, 1<<32 + 4, 1 << 62,
	math.MaxInt - 2, math.MaxInt - 1, math.MaxInt,
}

// policies, caps and ghosts are numbers about which it may go wrong.
var (
	policies = append([]int{0, 1, 2, 3, 4, 5, 6, 7, 8, 255, 256, 257}, far...)
	caps     = append([]int{0, 1, 2, 3, 4, 5, 8, 127, 128, 129, 254, 255, 256, 257, 258, 511, 512, 513}, far...)
	ghosts   = append([]int{0, 1, 2, 3, 127, 128, 255, 256, 257, 510, 511, 512, 513}, far...)
)

// quotas are numbers about which a quota beside that cap may go wrong.
func quotas(most int) []int {
	list := append([]int{0, 1, 2, 3, 128, 254, 255, 256, 257, most}, far...)
	for step := 1; step <= 2; step++ {
		if most >= math.MinInt+step {
			list = append(list, most-step)
		}
		if most <= math.MaxInt-step {
			list = append(list, most+step)
		}
	}
	return list
}

// of makes a config of four numbers, in the order of its fields.
func of(policy, most, quota, ghosts int) api.Config {
	return api.Config{Policy: api.Policy(policy), Cap: most, Quota: quota, Ghosts: ghosts}
}

// mayBe says whether a config may be, by numbers of any size.
func mayBe(policy, most, quota, ghosts *big.Int) bool {
	from := func(n *big.Int, least, most int64) bool {
		return n.Cmp(big.NewInt(least)) >= 0 && n.Cmp(big.NewInt(most)) <= 0
	}
	return from(policy, 1, 4) && from(most, 2, 256) && from(quota, 1, 512) && quota.Cmp(most) < 0 && from(ghosts, 0, 512)
}

// isGood says the same of a config.
func isGood(c api.Config) bool {
	whole := func(n int) *big.Int { return big.NewInt(int64(n)) }
	return mayBe(whole(int(c.Policy)), whole(c.Cap), whole(c.Quota), whole(c.Ghosts))
}

// textOf is the text of a config that may be.
func textOf(c api.Config) string {
	return four[c.Policy-1].name + " " + strconv.Itoa(c.Cap) + " " + strconv.Itoa(c.Quota) + " " + strconv.Itoa(c.Ghosts)
}

// edgeConfigs tells configs of all edges: each policy and each cap beside each
// quota and a few numbers of ghosts, and beside each number of ghosts and a few
// quotas.
func edgeConfigs(yield func(api.Config)) {
	for _, policy := range policies {
		for _, most := range caps {
			for _, quota := range quotas(most) {
				for _, g := range []int{0, 16, 512, -1, 513} {
					yield(of(policy, most, quota, g))
				}
			}
			for _, g := range ghosts {
				for _, quota := range []int{0, 1, 2, 255, 256} {
					yield(of(policy, most, quota, g))
				}
			}
		}
	}
}

// goodConfigs are some configs that may be: of each policy, of caps and quotas
// of all sizes, and all edges.
func goodConfigs() []api.Config {
	var list []api.Config
	for _, p := range four {
		for _, most := range []int{2, 3, 4, 9, 10, 11, 99, 100, 101, 255, 256} {
			for _, quota := range []int{1, 2, 9, 10, 99, 100, most / 2, most - 2, most - 1} {
				for _, g := range []int{0, 1, 9, 10, 99, 100, 255, 256, 257, 511, 512} {
					if quota >= 1 && quota < most {
						list = append(list, of(int(p.policy), most, quota, g))
					}
				}
			}
		}
	}
	return list
}

// fewGood are a few configs that may be.
func fewGood() []api.Config {
	return []api.Config{
		of(1, 2, 1, 0), of(1, 8, 2, 16), of(2, 10, 3, 7), of(3, 2, 1, 0), of(4, 256, 255, 512), of(2, 256, 1, 0), of(3, 2, 1, 512), of(4, 100, 10, 300),
	}
}

// bad are configs that may not be, each by one number alone, but the last ones.
func bad() []api.Config {
	return []api.Config{
		of(-1, 8, 2, 16), of(0, 8, 2, 16), of(5, 8, 2, 16), of(math.MinInt, 8, 2, 16), of(math.MaxInt, 8, 2, 16), of(1<<32+1, 8, 2, 16), of(257, 8, 2, 16),
		of(1, 1, 1, 16), of(1, 257, 2, 16), of(1, 258, 2, 16), of(1, 257, 256, 16), of(1, math.MaxInt, 2, 16), of(1, 1<<32+8, 2, 16), of(1, math.MinInt, 2, 16),
		of(1, 8, 0, 16), of(1, 8, -1, 16), of(1, 8, 8, 16), of(1, 8, 9, 16), of(1, 2, 2, 16), of(1, 256, 256, 16), of(1, 8, math.MaxInt, 16), of(1, 8, math.MinInt, 16),
		of(1, 8, 2, -1), of(1, 8, 2, 513), of(1, 8, 2, math.MaxInt), of(1, 8, 2, math.MinInt), of(1, 8, 2, 1<<32), of(1, 8, 2, 1<<32+16),
		of(1, 1, 0, 16), of(1, 0, 0, 0), of(1, 0, -1, 0), of(1, -1, -2, 0), of(1, math.MinInt, math.MaxInt, 0), of(1, math.MinInt, math.MinInt, 0),
		{}, of(-1, -1, -1, -1), of(math.MinInt, math.MinInt, math.MinInt, math.MinInt), of(math.MaxInt, math.MaxInt, math.MaxInt, math.MaxInt),
		of(5, 257, 257, 513), of(1, math.MaxInt, math.MaxInt-1, 0),
	}
}

// noNames are near to names, or made of them, but none.
func noNames() []string {
	list := []string{
		"", " ", "  ", "\n", "\x00", "\xff", "0", "1", "2", "3", "4", "5", "-", "-1", "policy", "none", "nopolicy", "lir", "irs", "clockpro", "clock-pro",
		"fifo", "mru", "lfu", "l", "c", "s", "chance", "secondchance", "wheel", "stack", "\u217cirs", "\uff4c\uff49\uff52\uff53", "lir\u017f", "\u017fecond", "cloc\u212a",
		"lirs\u0301", "\ufefflirs", "\u2170", "\u0131irs", "l\u0131rs", strings.Repeat("lirs", 1000), strings.Repeat(" ", 1000), strings.Repeat("l", 100000),
	}
	for _, p := range four {
		name := p.name
		list = append(list, strings.ToUpper(name), strings.ToUpper(name[:1])+name[1:], name[:len(name)-1]+strings.ToUpper(name[len(name)-1:]))
		for _, blank := range []string{" ", "  ", "\n", "\t", "\r", "\x00", "\u00a0", ":", "=", ".", "-"} {
			list = append(list, blank+name, name+blank, blank+name+blank, name[:1]+blank+name[1:])
		}
		list = append(list, name+" 2", name+" 2 1 0", name+"1", name+"s", name[1:], name[:len(name)-1], name[:1], name+name)
		for _, other := range four {
			list = append(list, name+" "+other.name, name+","+other.name, name+"-"+other.name)
		}
	}
	return list
}

// eachNear tells the texts that are one byte away from s: one less, one other,
// one more.
func eachNear(s string, yield func(string)) {
	for i := range len(s) + 1 {
		for c := range 256 {
			more := string([]byte{byte(c)})
			yield(s[:i] + more + s[i:])
			if i < len(s) {
				yield(s[:i] + more + s[i+1:])
			}
		}
		if i < len(s) {
			yield(s[:i] + s[i+1:])
		}
	}
}

// form is the form of a config's text, but for how great the numbers may be.
var form = regexp.MustCompile(`\A(lirs|clock|lru|second) (0|-?[1-9][0-9]*) (0|-?[1-9][0-9]*) (0|-?[1-9][0-9]*)\z`)

// whose says whose text s is, or which error it asks for.
func whose(s string) (api.Config, api.Errno) {
	found := form.FindStringSubmatch(s)
	if found == nil {
		return api.Config{}, api.ErrForm
	}
	var numbers [4]*big.Int
	for place := 1; place < 4; place++ {
		n, _ := new(big.Int).SetString(found[place+1], 10)
		if !n.IsInt64() || n.Int64() != int64(int(n.Int64())) {
			return api.Config{}, api.ErrForm
		}
		numbers[place] = n
	}
	for _, p := range four {
		if p.name == found[1] {
			numbers[0] = big.NewInt(int64(p.policy))
		}
	}
	if !mayBe(numbers[0], numbers[1], numbers[2], numbers[3]) {
		return api.Config{}, api.ErrConfig
	}
	return of(int(numbers[0].Int64()), int(numbers[1].Int64()), int(numbers[2].Int64()), int(numbers[3].Int64())), api.OK
}

// checkParse holds Parse against the form, and what is read against Print.
func checkParse(t *testing.T, s string) {
	t.Helper()
	want, told := whose(s)
	c, errno := Parse(s)
	if c != want || errno != told {
		t.Fatalf("Parse(%.300q): %v, %d, not %v, %d", s, c, errno, want, told)
	}
	if errno != api.OK {
		return
	}
	if back, errno := Print(c); back != s || errno != api.OK {
		t.Fatalf("Parse(%q) is printed as %q, %d", s, back, errno)
	}
}

// checkError says that s is read as nothing, with that error.
func checkError(t *testing.T, s string, want api.Errno) {
	t.Helper()
	if c, errno := Parse(s); c != (api.Config{}) || errno != want {
		t.Fatalf("Parse(%.300q): %v, %d, not %d", s, c, errno, want)
	}
}

// checkConfig holds all that is told of one config against isGood.
func checkConfig(t *testing.T, c api.Config) {
	t.Helper()
	errno, room, text := api.ErrConfig, 0, ""
	if isGood(c) {
		errno, room, text = api.OK, c.Cap-c.Quota, textOf(c)
	}
	if got := Check(c); got != errno {
		t.Fatalf("Check(%v): %d, not %d", c, got, errno)
	}
	if got := Room(c); got != room {
		t.Fatalf("Room(%v): %d, not %d", c, got, room)
	}
	if got, told := Print(c); got != text || told != errno {
		t.Fatalf("Print(%v): %q, %d, not %q, %d", c, got, told, text, errno)
	}
}

// P11.1

func TestCheck(t *testing.T) {
	for what, c := range map[string]struct {
		config api.Config
		want   api.Errno
	}{
		"the least of LIRS":         {api.Config{Policy: api.Lirs, Cap: 2, Quota: 1}, api.OK},
		"the least of CLOCK-Pro":    {api.Config{Policy: api.Clock, Cap: 2, Quota: 1}, api.OK},
		"the least of lru":          {api.Config{Policy: api.Lru, Cap: 2, Quota: 1}, api.OK},
		"the least of second":       {api.Config{Policy: api.Second, Cap: 2, Quota: 1}, api.OK},
		"the greatest":              {api.Config{Policy: api.Second, Cap: 256, Quota: 255, Ghosts: 512}, api.OK},
		"no policy":                 {api.Config{Policy: api.NoPolicy, Cap: 2, Quota: 1}, api.ErrConfig},
		"a policy below 0":          {api.Config{Policy: -1, Cap: 2, Quota: 1}, api.ErrConfig},
		"a policy too great":        {api.Config{Policy: 5, Cap: 2, Quota: 1}, api.ErrConfig},
		"a cap of 1, quota 0":       {api.Config{Policy: api.Lru, Cap: 1, Quota: 0}, api.ErrConfig},
		"a cap of 1, quota 1":       {api.Config{Policy: api.Lru, Cap: 1, Quota: 1}, api.ErrConfig},
		"a cap of 257":              {api.Config{Policy: api.Lru, Cap: 257, Quota: 1}, api.ErrConfig},
		"a quota of 0":              {api.Config{Policy: api.Lirs, Cap: 8, Quota: 0}, api.ErrConfig},
		"a quota of cap less 1":     {api.Config{Policy: api.Lirs, Cap: 8, Quota: 7}, api.OK},
		"a quota of cap":            {api.Config{Policy: api.Lirs, Cap: 8, Quota: 8}, api.ErrConfig},
		"a quota of 0 of lru":       {api.Config{Policy: api.Lru, Cap: 8, Quota: 0}, api.ErrConfig},
		"a quota of cap of second":  {api.Config{Policy: api.Second, Cap: 8, Quota: 8}, api.ErrConfig},
		"ghosts below 0":            {api.Config{Policy: api.Clock, Cap: 8, Quota: 2, Ghosts: -1}, api.ErrConfig},
		"512 ghosts":                {api.Config{Policy: api.Clock, Cap: 8, Quota: 2, Ghosts: 512}, api.OK},
		"513 ghosts":                {api.Config{Policy: api.Clock, Cap: 8, Quota: 2, Ghosts: 513}, api.ErrConfig},
		"513 ghosts of lru":         {api.Config{Policy: api.Lru, Cap: 8, Quota: 2, Ghosts: 513}, api.ErrConfig},
		"nothing":                   {api.Config{}, api.ErrConfig},
		"more ghosts than pages":    {api.Config{Policy: api.Lirs, Cap: 2, Quota: 1, Ghosts: 500}, api.OK},
		"more pages than ghosts":    {api.Config{Policy: api.Lirs, Cap: 256, Quota: 1, Ghosts: 1}, api.OK},
		"the least int everywhere":  {api.Config{Policy: math.MinInt, Cap: math.MinInt, Quota: math.MinInt, Ghosts: math.MinInt}, api.ErrConfig},
		"a cap of the least int":    {api.Config{Policy: api.Lirs, Cap: math.MinInt, Quota: 1}, api.ErrConfig},
		"a cap of the greatest int": {api.Config{Policy: api.Lirs, Cap: math.MaxInt, Quota: 1}, api.ErrConfig},
	} {
		if got := Check(c.config); got != c.want {
			t.Errorf("%s: %d, not %d", what, got, c.want)
		}
	}
}

func TestCheckOfTheEdges(t *testing.T) {
	edgeConfigs(func(c api.Config) { checkConfig(t, c) })
	for _, c := range bad() {
		checkConfig(t, c)
	}
}

// Each cap with each quota, and each number of ghosts, also beyond the edges.
func TestCheckOfAll(t *testing.T) {
	count := 0
	for policy := -2; policy <= 7; policy++ {
		for most := -2; most <= 260; most++ {
			for quota := -2; quota <= 260; quota++ {
				good := policy >= 1 && policy <= 4 && most >= 2 && most <= 256 && quota >= 1 && quota <= most-1
				c := of(policy, most, quota, (most+quota+4)%513)
				if (Check(c) == api.OK) != good {
					t.Fatalf("Check(%v): %d", c, Check(c))
				}
				if good {
					count++
				}
			}
		}
		for g := -3; g <= 516; g++ {
			checkConfig(t, of(policy, 100, 7, g))
		}
	}
	if want := 4 * 255 * 256 / 2; count != want {
		t.Errorf("%d may be, not %d", count, want)
	}
}

func TestRoom(t *testing.T) {
	for want, c := range map[int]api.Config{
		1: of(3, 2, 1, 0), 6: of(1, 8, 2, 16), 7: of(2, 10, 3, 7), 255: of(4, 256, 1, 512), 128: of(2, 256, 128, 0), 90: of(4, 100, 10, 300),
		2: of(1, 256, 254, 512),
	} {
		if got := Room(c); got != want {
			t.Errorf("Room(%v): %d, not %d", c, got, want)
		}
	}
	for _, c := range goodConfigs() {
		room := Room(c)
		if room != c.Cap-c.Quota || room < 1 || room >= c.Cap {
			t.Fatalf("Room(%v): %d", c, room)
		}
	}
}

func TestRoomOfWhatMayNotBe(t *testing.T) {
	for _, c := range bad() {
		if got := Room(c); got != 0 {
			t.Errorf("Room(%v): %d", c, got)
		}
	}
}

func TestNameAndPolicyOfTheFour(t *testing.T) {
	for p, name := range map[api.Policy]string{api.Lirs: "lirs", api.Clock: "clock", api.Lru: "lru", api.Second: "second"} {
		if got := Name(p); got != name {
			t.Errorf("Name(%d): %q, not %q", p, got, name)
		}
		if got, ok := Policy(name); got != p || !ok {
			t.Errorf("Policy(%q): %d, %v, not %d", name, got, ok, p)
		}
	}
}

func TestNameOfNoPolicy(t *testing.T) {
	for p := -1000; p <= 1000; p++ {
		if got := Name(api.Policy(p)); (got == "") != (p < 1 || p > 4) {
			t.Errorf("Name(%d): %q", p, got)
		}
	}
	for _, p := range slices.Concat(far, []int{1 << 8, 1<<8 + 1, 1<<16 + 2, 1<<32 + 3, 1<<62 + 4, -1<<63 + 3}) {
		if got := Name(api.Policy(p)); got != "" {
			t.Errorf("Name(%d): %q", p, got)
		}
	}
}

func TestPolicyOfNoName(t *testing.T) {
	for _, name := range noNames() {
		if p, ok := Policy(name); p != api.NoPolicy || ok {
			t.Errorf("Policy(%.60q): %d, %v", name, p, ok)
		}
	}
}

// Each name with one byte more, less or other; some are a name again.
func TestPolicyOfNearNames(t *testing.T) {
	for _, p := range four {
		eachNear(p.name, func(s string) {
			place := slices.IndexFunc(four, func(q struct {
				policy api.Policy
				name   string
			}) bool {
				return q.name == s
			})
			if got, ok := Policy(s); got != api.Policy(place+1) || ok != (place >= 0) {
				t.Fatalf("Policy(%q): %d, %v", s, got, ok)
			}
		})
	}
}

// P11.2

func TestPrint(t *testing.T) {
	for want, c := range map[string]api.Config{
		"lirs 2 1 0":         {Policy: api.Lirs, Cap: 2, Quota: 1},
		"lirs 8 2 16":        {Policy: api.Lirs, Cap: 8, Quota: 2, Ghosts: 16},
		"clock 10 3 7":       {Policy: api.Clock, Cap: 10, Quota: 3, Ghosts: 7},
		"lru 2 1 0":          {Policy: api.Lru, Cap: 2, Quota: 1},
		"lru 2 1 512":        {Policy: api.Lru, Cap: 2, Quota: 1, Ghosts: 512},
		"second 256 255 512": {Policy: api.Second, Cap: 256, Quota: 255, Ghosts: 512},
		"second 100 10 300":  {Policy: api.Second, Cap: 100, Quota: 10, Ghosts: 300},
	} {
		if got, errno := Print(c); got != want || errno != api.OK {
			t.Errorf("Print(%v): %q, %d, not %q", c, got, errno, want)
		}
		if got, errno := Parse(want); got != c || errno != api.OK {
			t.Errorf("Parse(%q): %v, %d, not %v", want, got, errno, c)
		}
	}
	for _, c := range goodConfigs() {
		checkConfig(t, c)
	}
}

func TestPrintOfWhatMayNotBe(t *testing.T) {
	for _, c := range bad() {
		if got, errno := Print(c); got != "" || errno != api.ErrConfig {
			t.Errorf("Print(%v): %q, %d", c, got, errno)
		}
	}
}

func TestParse(t *testing.T) {
	for _, c := range goodConfigs() {
		if got, errno := Parse(textOf(c)); got != c || errno != api.OK {
			t.Fatalf("Parse(%q): %v, %d", textOf(c), got, errno)
		}
	}
}

func TestParseOfTooFewOrTooManyWords(t *testing.T) {
	for _, s := range []string{
		"", " ", "  ", "   ", "    ", "\n", "0", "1", "lirs", "lirs ", "lirs 8", "lirs 8 2", "lru 2 1", "lirs 8 2 ", "lirs   ", "8 2 16", "8 2 16 1",
		"lirs 8 2 16 0", "lirs 8 2 16 ", "lirs 8 2 16  ", " lirs 8 2 16", "lirs lirs 8 2 16", "lirs 8 2 16 lirs", "lirs 8 2 16 lirs 8 2 16",
		strings.Repeat(" ", 100000), strings.Repeat("lirs 8 2 16 ", 5000), strings.Repeat("lirs 8 2 16\n", 2), strings.Repeat("9", 100000),
	} {
		checkError(t, s, api.ErrForm)
	}
	for _, c := range fewGood() {
		words := strings.Split(textOf(c), " ")
		for i := range words {
			checkError(t, strings.Join(words[:i], " "), api.ErrForm)
			checkError(t, strings.Join(slices.Delete(slices.Clone(words), i, i+1), " "), api.ErrForm)
			for _, word := range append([]string{"", "0", "1", "-1", "more"}, words...) {
				checkError(t, strings.Join(slices.Insert(slices.Clone(words), i, word), " "), api.ErrForm)
			}
		}
		for _, word := range append([]string{"", "0", "1", "-1", "more"}, words...) {
			checkError(t, textOf(c)+" "+word, api.ErrForm)
		}
	}
}

func TestParseOfOtherBlanks(t *testing.T) {
	blanks := []string{
		"", "  ", "   ", "\t", "\n", "\r", "\v", "\f", "\x00", "\u00a0", "\u2003", " \n", "\n ", " \t", "\t ", ",", ", ", "=", ": ", "-", " +", "_", "/", ".",
	}
	for _, c := range fewGood() {
		s := textOf(c)
		words := strings.Split(s, " ")
		for _, blank := range blanks {
			for i := 1; i < len(words); i++ {
				checkError(t, strings.Join(words[:i], " ")+blank+strings.Join(words[i:], " "), api.ErrForm)
			}
			if blank != "" {
				checkError(t, strings.Join(words, blank), api.ErrForm)
				checkError(t, blank+s, api.ErrForm)
				checkError(t, s+blank, api.ErrForm)
				checkError(t, blank+s+blank, api.ErrForm)
			}
		}
		checkError(t, " "+s, api.ErrForm)
		checkError(t, s+" ", api.ErrForm)
		checkError(t, " "+s+" ", api.ErrForm)
		checkError(t, strings.Join(words, ""), api.ErrForm)
	}
}

// noNumbers are the texts of no int.
func noNumbers() []string {
	return []string{
		"", "\n", "\x00", "-", "+", "00", "01", "02", "007", "-0", "-00", "-01", "+0", "+1", "+2", "--1", "1-", "1+", "a", "1a", "a1", "0x1", "0b1", "1e1",
		"1.0", "1.", ".1", "1_0", "1,0", "1\n", "\n1", "\t1", "1\t", "1\r", "1\x00", "\xff", "1\xff", "\u0661", "\uff11", "\u2212" + "1", "/", ":", "two", "lirs", "NaN",
		"9223372036854775808", "9223372036854775809", "18446744073709551615", "18446744073709551616", "18446744073709551618", "-9223372036854775809",
		"-18446744073709551616", "36893488147419103234", "340282366920938463463374607431768211458", "99999999999999999999", "09223372036854775807",
		strings.Repeat("0", 100), strings.Repeat("0", 100) + "2", strings.Repeat("1", 1000), "-" + strings.Repeat("9", 1000), strings.Repeat("9", 20000),
	}
}

func TestParseOfNoNumbers(t *testing.T) {
	for _, c := range fewGood() {
		words := strings.Split(textOf(c), " ")
		for place := 1; place < 4; place++ {
			for _, word := range noNumbers() {
				other := slices.Clone(words)
				other[place] = word
				checkError(t, strings.Join(other, " "), api.ErrForm)
			}
		}
	}
}

func TestParseOfNoPolicy(t *testing.T) {
	for _, name := range noNames() {
		for _, c := range fewGood() {
			_, numbers, _ := strings.Cut(textOf(c), " ")
			checkError(t, name+" "+numbers, api.ErrForm)
		}
	}
}

// Numbers that are read, but may not be, at each place, alone and together.
func TestParseOfWhatMayNotBe(t *testing.T) {
	for _, s := range []string{
		"lru 1 1 0", "lru 1 0 0", "lru 0 0 0", "lru 257 1 0", "lru 257 256 0", "lru -2 1 0", "lru -2 -3 0", "lirs 8 0 16", "lirs 8 8 16", "lirs 8 9 16",
		"lirs 8 -1 16", "clock 10 3 513", "clock 10 3 -1", "clock 10 10 7", "second 256 256 512", "second 9223372036854775807 1 0", "second 2 9223372036854775807 0",
		"second 2 1 9223372036854775807", "second -9223372036854775808 1 0", "second 2 -9223372036854775808 0", "second 2 1 -9223372036854775808",
		"lirs 4294967304 2 16", "lirs 8 4294967298 16", "lirs 8 2 4294967312", "lirs -1 -1 -1", "lirs 9223372036854775807 9223372036854775806 0",
		"lirs -9223372036854775808 9223372036854775807 0", "lirs -9223372036854775808 -9223372036854775808 -9223372036854775808",
	} {
		checkError(t, s, api.ErrConfig)
	}
	for _, p := range four {
		for _, most := range caps {
			for _, quota := range []int{math.MinInt, -1, 0, 1, 2, 7, 8, 255, 256, math.MaxInt} {
				for _, g := range ghosts {
					checkParse(t, p.name+" "+strconv.Itoa(most)+" "+strconv.Itoa(quota)+" "+strconv.Itoa(g))
				}
			}
		}
	}
}

// Where the form is wrong at one place and a number may not be at another one,
// ErrForm is told, whichever stands ahead.
func TestParseTellsErrFormFirst(t *testing.T) {
	for _, s := range []string{
		"lru 1 1 x", "lru 1 x 0", "lru x 2 513", "lru 257 1 007", "lru 2 2 +0", "lru -1 -1 -0", "x 1 1 0", "LRU 1 1 0", " 1 1 0", "5 1 1 0", "lru 1 1 0 ", "lru 1 1",
		"lru 1 1 0 0", "lru 1  1 0", " lru 1 1 0", "lru 0 0", "lru 513 513 513 513", "lru 1 1 9223372036854775808", "lru 9223372036854775808 0 0",
		"lru 1 -9223372036854775809 0", "lru 0 01 0", "nopolicy 0 0 0", "\nlru 1 1 0", "lru 1 1 0\n",
	} {
		checkError(t, s, api.ErrForm)
	}
	for place := 1; place < 4; place++ {
		for _, word := range noNumbers() {
			for _, s := range []string{"lru 1 1 0", "lirs 8 0 16", "clock 10 3 513", "second 257 256 -1", "lirs -1 -1 -1"} {
				words := strings.Split(s, " ")
				words[place] = word
				checkError(t, strings.Join(words, " "), api.ErrForm)
			}
		}
	}
}

// P11.3

func TestLost(t *testing.T) {
	for what, c := range map[string]struct {
		a, b api.Config
		want int
	}{
		"of alike ones":                   {of(1, 8, 2, 16), of(1, 8, 2, 16), 0},
		"of the least ones":               {of(3, 2, 1, 0), of(3, 2, 1, 0), 0},
		"of a lesser cap":                 {of(1, 8, 2, 16), of(1, 5, 2, 16), 3},
		"of a greater cap":                {of(1, 5, 2, 16), of(1, 8, 2, 16), 0},
		"of fewer ghosts":                 {of(1, 8, 2, 16), of(1, 8, 2, 9), 7},
		"of more ghosts":                  {of(1, 8, 2, 9), of(1, 8, 2, 16), 0},
		"of both less":                    {of(1, 8, 2, 16), of(1, 3, 2, 4), 17},
		"of both more":                    {of(1, 3, 2, 4), of(1, 8, 2, 16), 0},
		"of more pages, fewer ghosts":     {of(1, 8, 2, 16), of(1, 10, 2, 9), 5},
		"of the same the other way":       {of(1, 10, 2, 9), of(1, 8, 2, 16), 0},
		"of fewer pages, more ghosts":     {of(1, 20, 2, 9), of(1, 8, 2, 16), 5},
		"of pages that became ghosts":     {of(1, 20, 2, 9), of(1, 9, 2, 20), 0},
		"of one less":                     {of(1, 20, 2, 9), of(1, 9, 2, 19), 1},
		"of one more":                     {of(1, 20, 2, 9), of(1, 9, 2, 21), 0},
		"of the greatest to the least":    {of(4, 256, 255, 512), of(3, 2, 1, 0), 766},
		"of the least to the greatest":    {of(3, 2, 1, 0), of(4, 256, 255, 512), 0},
		"of another quota alone":          {of(1, 8, 7, 16), of(1, 8, 1, 16), 0},
		"of another quota the other way":  {of(1, 8, 1, 16), of(1, 8, 7, 16), 0},
		"of another policy alone":         {of(4, 8, 2, 16), of(1, 8, 2, 16), 0},
		"of another policy, a lesser cap": {of(1, 8, 2, 16), of(4, 7, 2, 16), 1},
		"of policies without ghosts":      {of(3, 8, 2, 16), of(3, 8, 2, 0), 16},
	} {
		if got := Lost(c.a, c.b); got != c.want {
			t.Errorf("%s: %d, not %d", what, got, c.want)
		}
	}
}

func TestLostOfSomeConfigs(t *testing.T) {
	var list []api.Config
	for i, c := range goodConfigs() {
		if i%11 == i/11%11 {
			list = append(list, c)
		}
	}
	list = append(list, fewGood()...)
	for _, a := range list {
		for _, b := range list {
			one, other := Lost(a, b), Lost(b, a)
			if one < 0 || other < 0 || one > 0 && other > 0 {
				t.Fatalf("Lost of %v, %v: %d, and %d the other way", a, b, one, other)
			}
			if want := a.Cap + a.Ghosts - b.Cap - b.Ghosts; one-other != want {
				t.Fatalf("Lost of %v, %v: %d, and %d the other way, not %d", a, b, one, other, want)
			}
		}
	}
}

func TestLostOfWhatMayNotBe(t *testing.T) {
	wrong := bad()
	edgeConfigs(func(c api.Config) {
		if !isGood(c) && len(wrong) < 5000 {
			wrong = append(wrong, c)
		}
	})
	for _, c := range wrong {
		for _, good := range fewGood() {
			if one, other := Lost(c, good), Lost(good, c); one != 0 || other != 0 {
				t.Fatalf("Lost of %v, %v: %d, and %d the other way", c, good, one, other)
			}
		}
	}
	for _, a := range bad() {
		for _, b := range bad() {
			if got := Lost(a, b); got != 0 {
				t.Fatalf("Lost of %v, %v: %d", a, b, got)
			}
		}
	}
}

// P11.4

func TestWhatIsPrintedIsReadBack(t *testing.T) {
	texts := map[string]api.Config{}
	for _, c := range goodConfigs() {
		s, errno := Print(c)
		if errno != api.OK {
			t.Fatalf("Print(%v): %d", c, errno)
		}
		if got, errno := Parse(s); got != c || errno != api.OK {
			t.Fatalf("%v is printed as %q, which is read as %v, %d", c, s, got, errno)
		}
		if other, has := texts[s]; has && other != c {
			t.Fatalf("%q is printed of %v and of %v", s, c, other)
		}
		texts[s] = c
	}
}

func TestAllCapsQuotasAndGhostsAreReadBack(t *testing.T) {
	for _, p := range four {
		for most := 2; most <= 256; most++ {
			for quota := 1; quota < most; quota++ {
				checkReadBack(t, of(int(p.policy), most, quota, (3*most+7*quota)%513))
			}
		}
		for g := range 513 {
			checkReadBack(t, of(int(p.policy), 256, 1, g))
		}
	}
}

// checkReadBack says that a config is printed as its text, and read back.
func checkReadBack(t *testing.T, c api.Config) {
	t.Helper()
	s, told := Print(c)
	got, errno := Parse(s)
	if s != textOf(c) || told != api.OK || got != c || errno != api.OK {
		t.Fatalf("%v is printed as %q, %d, which is read as %v, %d", c, s, told, got, errno)
	}
}

func TestOnlyWhatIsPrintedIsRead(t *testing.T) {
	for _, c := range fewGood() {
		eachNear(textOf(c), func(s string) { checkParse(t, s) })
	}
}

func TestParseOfCutTexts(t *testing.T) {
	for _, c := range fewGood() {
		s := textOf(c)
		for i := range s {
			checkParse(t, s[:i]+s)
			checkParse(t, s[i:]+s)
			for k := i; k <= len(s); k++ {
				checkParse(t, s[i:k])
				checkParse(t, s[:i]+s[k:])
			}
		}
	}
}

// All orders of a config's words, and words of one config in another one.
func TestParseOfWordsInOtherPlaces(t *testing.T) {
	for _, a := range fewGood() {
		for _, b := range fewGood() {
			words := append(strings.Split(textOf(a), " "), strings.Split(textOf(b), " ")...)
			for i := range 8 * 8 * 8 * 8 {
				checkParse(t, words[i%8]+" "+words[i/8%8]+" "+words[i/64%8]+" "+words[i/512])
			}
		}
	}
}

// FuzzParse holds Parse against the form.
func FuzzParse(f *testing.F) {
	for _, c := range fewGood() {
		f.Add(textOf(c))
	}
	for _, s := range []string{"", "lru 1 1 0", "lru 2 1", "clock 010 3 7", "lirs 8 2 16 ", "second 2 1 9223372036854775808"} {
		f.Add(s)
	}
	f.Fuzz(checkParse)
}
