package digits

import (
	"bytes"
	"math"
	"math/big"
	"slices"
	"strings"
	"testing"
)

const greatest uint64 = math.MaxUint64

// numbers holds the edges of numbers with their texts, written out.
var numbers = []struct {
	n    uint64
	text string
}{
	{0, "0"},
	{1, "1"},
	{7, "7"},
	{9, "9"},
	{10, "10"},
	{11, "11"},
	{99, "99"},
	{100, "100"},
	{101, "101"},
	{255, "255"},
	{1<<31 - 1, "2147483647"},
	{1 << 31, "2147483648"},
	{1<<32 - 1, "4294967295"},
	{1 << 32, "4294967296"},
	{1<<63 - 1, "9223372036854775807"},
	{1 << 63, "9223372036854775808"},
	{1<<63 + 1, "9223372036854775809"},
	{9999999999999999999, "9999999999999999999"},
	{10000000000000000000, "10000000000000000000"},
	{greatest - 1, "18446744073709551614"},
	{greatest, "18446744073709551615"},
}

// ints holds the edges of ints with their texts, written out.
var ints = []struct {
	n    int
	text string
}{
	{0, "0"},
	{1, "1"},
	{-1, "-1"},
	{9, "9"},
	{-9, "-9"},
	{10, "10"},
	{-10, "-10"},
	{-7, "-7"},
	{99, "99"},
	{-100, "-100"},
	{math.MaxInt32, "2147483647"},
	{math.MinInt32, "-2147483648"},
	{math.MaxInt, "9223372036854775807"},
	{math.MaxInt - 1, "9223372036854775806"},
	{math.MinInt, "-9223372036854775808"},
	{math.MinInt + 1, "-9223372036854775807"},
}

// noNumbers are the texts of no number, of whichever type.
var noNumbers = []string{
	"", " ", "\n", "\x00", "-", "+", "--", "+-", "-+",
	"00", "01", "007", "-0", "-00", "-01", "-007", "+0", "+1", "+7", "++7", "--7", "+-7", "-+7", "- 7", "7-", "7+", "7-7",
	" 7", "7 ", " 7 ", "7 7", "7\n", "\n7", "\t7", "7\t", "7\r", "7\r\n", "\v7", "7\f", "7\x00", "\x007", "\u00a07", "7\u00a0", "\ufeff7",
	"a", "7a", "a7", "ff", "0x7", "0X7", "0b1", "0o7", "7u", "1e3", "1E3", "7.", ".7", "7.0", "7,0", "1_000", "_1", "1_", "1'000", "1,000",
	"/", ":", "1/", "1:", "/1", ":1", "inf", "nan", "Inf", "true", "\xff", "7\xff", "\xff7", "\xb7", "\u0667", "\uff17", "\u0967", "\u2212" + "7", "\u00b2",
	"18446744073709551616", "18446744073709551617", "18446744073709551625", "18446744073709551700", "20000000000000000000",
	"28446744073709551615", "99999999999999999999", "100000000000000000000", "111111111111111111111", "184467440737095516150",
	"018446744073709551615", "36893488147419103232", "340282366920938463463374607431768211456",
	"-9223372036854775809", "-9223372036854775810", "-9223372036854775900", "-10000000000000000000", "-18446744073709551615",
	"-18446744073709551616", "-18446744073709551617", "-99999999999999999999", "-09223372036854775808",
	strings.Repeat("0", 100), strings.Repeat("0", 100) + "7", "-" + strings.Repeat("0", 100) + "7", strings.Repeat("9", 100),
	"-" + strings.Repeat("9", 100), strings.Repeat("1", 100000), "-" + strings.Repeat("1", 100000), strings.Repeat("0", 100000),
	strings.Repeat("-", 1000), strings.Repeat(" ", 1000), "1" + strings.Repeat("0", 64), "1" + strings.Repeat(" ", 1000),
}

// someNumbers tells the edges, small and great numbers, powers of two and of
// ten with their neighbours, and numbers that are spread over all 64 bits.
func someNumbers() []uint64 {
	var list []uint64
	for _, c := range numbers {
		list = append(list, c.n)
	}
	for n := range uint64(12000) {
		list = append(list, n, greatest-n, 1<<63-n, 1<<63+n)
	}
	for shift := range 64 {
		p := uint64(1) << shift
		list = append(list, p-1, p, p+1)
	}
	for p := uint64(1); p <= greatest/10; p *= 10 {
		list = append(list, 10*p-1, 10*p, 10*p+1)
	}
	for i, x := 0, uint64(1); i < 5000; i++ {
		list = append(list, x, x>>(i%64))
		x = x*6364136223846793005 + 1442695040888963407
	}
	return list
}

// tell is a number's text, digit by digit from the lowest one on, with numbers
// of any size.
func tell(n *big.Int) string {
	if n.Sign() == 0 {
		return "0"
	}
	text, ten := "", big.NewInt(10)
	for left := new(big.Int).Abs(n); left.Sign() > 0; {
		digit := new(big.Int)
		left.QuoRem(left, ten, digit)
		text = string(rune('0'+digit.Int64())) + text
	}
	if n.Sign() < 0 {
		return "-" + text
	}
	return text
}

// whole says which number s is the text of, however great that is.
func whole(s string) (*big.Int, bool) {
	rest, below := strings.CutPrefix(s, "-")
	if rest == "" || rest[0] == '0' && (len(rest) > 1 || below) {
		return nil, false
	}
	n := new(big.Int)
	for i := range len(rest) {
		if rest[i] < '0' || rest[i] > '9' {
			return nil, false
		}
		n.Add(n.Mul(n, big.NewInt(10)), big.NewInt(int64(rest[i]-'0')))
	}
	if below {
		n.Neg(n)
	}
	return n, true
}

// checkRead holds Read and ReadInt against what the words say of a text.
func checkRead(t *testing.T, s string) {
	t.Helper()
	n, isOne := whole(s)
	var wantNumber uint64
	var wantInt int
	number := isOne && n.IsUint64()
	if number {
		wantNumber = n.Uint64()
	}
	small := isOne && n.IsInt64()
	if small {
		wantInt = int(n.Int64())
	}
	if got, ok := Read(s); got != wantNumber || ok != number {
		t.Fatalf("Read(%.60q): %d, %v, not %d, %v", s, got, ok, wantNumber, number)
	}
	if got, ok := ReadInt(s); got != wantInt || ok != small {
		t.Fatalf("ReadInt(%.60q): %d, %v, not %d, %v", s, got, ok, wantInt, small)
	}
}

// eachText tells all texts of a length over an alphabet.
func eachText(length int, alphabet string, yield func(string)) {
	text := make([]byte, length)
	var fill func(i int)
	fill = func(i int) {
		if i == length {
			yield(string(text))
			return
		}
		for c := range len(alphabet) {
			text[i] = alphabet[c]
			fill(i + 1)
		}
	}
	fill(0)
}

// eachNear tells the texts that are one byte away from s: one less, one other,
// one more.
func eachNear(s string, yield func(string)) {
	for i := range len(s) + 1 {
		for c := range 256 {
			more := string([]byte{byte(c)})
			yield(s[:i] + more + s[i:])
			if i < len(s) {
				yield(s[:i] + more + s[i+1:])
			}
		}
		if i < len(s) {
			yield(s[:i] + s[i+1:])
		}
	}
}

// P8.1

func TestPrint(t *testing.T) {
	for _, c := range numbers {
		if got := Print(c.n); got != c.text {
			t.Errorf("Print(%d): %q, not %q", c.n, got, c.text)
		}
	}
	for _, n := range someNumbers() {
		if got, want := Print(n), tell(new(big.Int).SetUint64(n)); got != want {
			t.Fatalf("Print(%d): %q, not %q", n, got, want)
		}
	}
}

func TestInt(t *testing.T) {
	for _, c := range ints {
		if got := Int(c.n); got != c.text {
			t.Errorf("Int(%d): %q, not %q", c.n, got, c.text)
		}
	}
	for _, n := range someNumbers() {
		if got, want := Int(int(n)), tell(big.NewInt(int64(n))); got != want {
			t.Fatalf("Int(%d): %q, not %q", int(n), got, want)
		}
	}
}

func TestRead(t *testing.T) {
	for _, c := range numbers {
		if got, ok := Read(c.text); got != c.n || !ok {
			t.Errorf("Read(%q): %d, %v", c.text, got, ok)
		}
	}
	for _, c := range ints {
		got, ok := Read(c.text)
		if want := max(c.n, 0); got != uint64(want) || ok != (c.n >= 0) {
			t.Errorf("Read(%q): %d, %v", c.text, got, ok)
		}
	}
}

func TestReadInt(t *testing.T) {
	for _, c := range ints {
		if got, ok := ReadInt(c.text); got != c.n || !ok {
			t.Errorf("ReadInt(%q): %d, %v", c.text, got, ok)
		}
	}
	for _, c := range numbers {
		got, ok := ReadInt(c.text)
		if c.n > math.MaxInt {
			if got != 0 || ok {
				t.Errorf("ReadInt(%q), which is above the greatest int: %d, %v", c.text, got, ok)
			}
		} else if got != int(c.n) || !ok {
			t.Errorf("ReadInt(%q): %d, %v", c.text, got, ok)
		}
	}
}

func TestReadOfNoNumber(t *testing.T) {
	for _, s := range noNumbers {
		if got, ok := Read(s); got != 0 || ok {
			t.Errorf("Read(%.60q): %d, %v", s, got, ok)
		}
		if got, ok := ReadInt(s); got != 0 || ok {
			t.Errorf("ReadInt(%.60q): %d, %v", s, got, ok)
		}
	}
}

func TestReadOfAllShortTexts(t *testing.T) {
	var bytes256 strings.Builder
	for c := range 256 {
		bytes256.WriteByte(byte(c))
	}
	for length := range 3 {
		eachText(length, bytes256.String(), func(s string) { checkRead(t, s) })
	}
	for length := range 6 {
		eachText(length, "0179-+ _ax", func(s string) { checkRead(t, s) })
	}
	for length := range 12 {
		eachText(length, "01-", func(s string) { checkRead(t, s) })
	}
}

func TestReadOfNearTexts(t *testing.T) {
	for _, c := range numbers {
		eachNear(c.text, func(s string) { checkRead(t, s) })
	}
	for _, c := range ints {
		eachNear(c.text, func(s string) { checkRead(t, s) })
	}
}

// Around each end of what can be read the texts of numbers go on, number by
// number: those inside are read, those outside are not.
func TestReadAroundTheEnds(t *testing.T) {
	least, top := big.NewInt(math.MinInt64), big.NewInt(math.MaxInt64)
	most := new(big.Int).SetUint64(greatest)
	great := new(big.Int).Lsh(big.NewInt(1), 65)
	for _, end := range []*big.Int{new(big.Int), least, top, most, great, new(big.Int).Neg(most), new(big.Int).Neg(great)} {
		for i := range int64(2001) {
			checkRead(t, tell(new(big.Int).Add(end, big.NewInt(i-1000))))
		}
	}
	for _, n := range []*big.Int{top, most} {
		for zeros := range 70 {
			checkRead(t, tell(n)+strings.Repeat("0", zeros))
			checkRead(t, strings.Repeat("0", zeros)+tell(n))
			checkRead(t, "-"+tell(n)+strings.Repeat("0", zeros))
		}
	}
	for length := range 70 {
		for _, digit := range []string{"0", "1", "2", "8", "9"} {
			checkRead(t, strings.Repeat(digit, length))
			checkRead(t, "-"+strings.Repeat(digit, length))
		}
	}
}

// P8.2

// digitOf is a digit of bytes' text, by a switch and not by a table.
func digitOf(n byte) string {
	switch {
	case n < 10:
		return string(rune('0' + n))
	default:
		return string(rune('a' + n - 10))
	}
}

// valueOf says what a digit stands for.
func valueOf(c byte) (byte, bool) {
	switch {
	case '0' <= c && c <= '9':
		return c - '0', true
	case 'a' <= c && c <= 'f':
		return c - 'a' + 10, true
	}
	return 0, false
}

// wantBytes says whose text s is, byte by byte.
func wantBytes(s string) ([]byte, bool) {
	var list []byte
	for ; s != ""; s = s[2:] {
		if len(s) == 1 {
			return nil, false
		}
		high, isHigh := valueOf(s[0])
		low, isLow := valueOf(s[1])
		if !isHigh || !isLow {
			return nil, false
		}
		list = append(list, 16*high+low)
	}
	return list, true
}

func checkReadHex(t *testing.T, s string) {
	t.Helper()
	want, wantOk := wantBytes(s)
	if got, ok := ReadHex(s); ok != wantOk || !bytes.Equal(got, want) {
		t.Fatalf("ReadHex(%.60q): %v, %v, not %v, %v", s, got, ok, want, wantOk)
	}
}

func TestHex(t *testing.T) {
	cases := []struct {
		b    []byte
		text string
	}{
		{nil, ""},
		{[]byte{}, ""},
		{[]byte{0}, "00"},
		{[]byte{1}, "01"},
		{[]byte{9}, "09"},
		{[]byte{10}, "0a"},
		{[]byte{15}, "0f"},
		{[]byte{16}, "10"},
		{[]byte{159}, "9f"},
		{[]byte{160}, "a0"},
		{[]byte{255}, "ff"},
		{[]byte{10, 255}, "0aff"},
		{[]byte{0, 171}, "00ab"},
		{[]byte{0, 0, 0}, "000000"},
		{[]byte("hutch"), "6875746368"},
		{[]byte{0xfe, 0xdc, 0xba, 0x98, 0x76, 0x54, 0x32, 0x10}, "fedcba9876543210"},
	}
	for _, c := range cases {
		if got := Hex(c.b); got != c.text {
			t.Errorf("Hex(%v): %q, not %q", c.b, got, c.text)
		}
		if got, ok := ReadHex(c.text); !ok || !bytes.Equal(got, c.b) {
			t.Errorf("ReadHex(%q): %v, %v", c.text, got, ok)
		}
	}
}

func TestHexOfEachByte(t *testing.T) {
	var all []byte
	text := ""
	for c := range 256 {
		want := digitOf(byte(c/16)) + digitOf(byte(c%16))
		if got := Hex([]byte{byte(c)}); got != want {
			t.Errorf("Hex of %d: %q, not %q", c, got, want)
		}
		all, text = append(all, byte(c)), text+want
	}
	if got := Hex(all); got != text {
		t.Errorf("Hex of all bytes: %q", got)
	}
	if got, ok := ReadHex(text); !ok || !bytes.Equal(got, all) {
		t.Errorf("ReadHex of all bytes' text: %v, %v", got, ok)
	}
}

func TestReadHexOfNoBytesText(t *testing.T) {
	for _, s := range []string{
		"0", "f", "000", "abc", "0aff1", "AB", "Ab", "aB", "0A", "A0", "FF", "0aFF", "0G", "0g", "g0", "G0", "zz",
		" ", "  ", "a ", " a", "0 ", "00 ", " 00", " 00 ", "00 00", "0 0 ", "00\n", "\n0", "0\x00", "\x00\x00", "0x", "0x00", "x0",
		"-1", "+1", "1-", "00-1", "0_", "00_0", "/0", "0/", ":0", "0:", "`0", "0`", "@0", "0@", "\xff\xff", "0\xff", "\xb0\xb1", "\u0660", "\u00e9", "\uff10",
		strings.Repeat("0", 99999), strings.Repeat("0", 99999) + "g", "g" + strings.Repeat("0", 99999), strings.Repeat("F", 1000),
	} {
		if got, ok := ReadHex(s); ok || len(got) != 0 {
			t.Errorf("ReadHex(%.60q): %v, %v", s, got, ok)
		}
	}
}

func TestReadHexOfAllShortTexts(t *testing.T) {
	var bytes256 strings.Builder
	for c := range 256 {
		bytes256.WriteByte(byte(c))
	}
	for length := range 3 {
		eachText(length, bytes256.String(), func(s string) { checkReadHex(t, s) })
	}
	for length := range 7 {
		eachText(length, "09afAg ", func(s string) { checkReadHex(t, s) })
	}
	for length := range 5 {
		eachText(length, "0123456789abcdef", func(s string) { checkReadHex(t, s) })
	}
}

func TestReadHexOfNearTexts(t *testing.T) {
	for _, s := range []string{"00", "0aff", "6875746368", "fedcba9876543210", strings.Repeat("09af", 20)} {
		eachNear(s, func(s string) { checkReadHex(t, s) })
	}
}

func TestHexOfLongBytes(t *testing.T) {
	for length := range 1100 {
		b := make([]byte, length)
		for i := range b {
			b[i] = byte(i*31 + i>>8 + length)
		}
		var want strings.Builder
		for _, c := range b {
			want.WriteString(digitOf(c/16) + digitOf(c%16))
		}
		if got := Hex(b); got != want.String() {
			t.Fatalf("Hex of %d bytes: %q, not %q", length, got, want.String())
		}
		if got, ok := ReadHex(Hex(b)); !ok || !bytes.Equal(got, b) {
			t.Fatalf("%d bytes are not read back: %v, %v", length, got, ok)
		}
	}
}

func TestHexKeepsToWhatItIsGiven(t *testing.T) {
	room := []byte{1, 2, 3, 200, 201, 202, 203, 204, 205}
	were := slices.Clone(room)
	if got := Hex(room[1:3]); got != "0203" {
		t.Errorf("Hex of a piece: %q", got)
	}
	if !bytes.Equal(room, were) {
		t.Errorf("Hex changed what it was given, or the room behind it: %v", room)
	}
	text := Hex(room[:3])
	clear(room)
	if text != "010203" {
		t.Errorf("a text changed with the bytes that it was made of: %q", text)
	}
}

func TestReadHexAnswersNewMemory(t *testing.T) {
	first, _ := ReadHex("0aff")
	second, _ := ReadHex("0aff")
	clear(first)
	_ = append(first[:0], 7, 7, 7, 7)
	if !bytes.Equal(second, []byte{10, 255}) {
		t.Errorf("what was told once changed what was told again: %v", second)
	}
	if third, ok := ReadHex("0aff"); !ok || !bytes.Equal(third, []byte{10, 255}) {
		t.Errorf("what was told changed a later call: %v, %v", third, ok)
	}
}

// P8.3

// wantWords parts a line byte by byte.
func wantWords(line string) []string {
	words := []string{""}
	for i := range len(line) {
		if line[i] == 32 {
			words = append(words, "")
		} else {
			words[len(words)-1] += line[i : i+1]
		}
	}
	return words
}

func checkWords(t *testing.T, line string) {
	t.Helper()
	words := Words(line)
	if want := wantWords(line); !slices.Equal(words, want) {
		t.Fatalf("Words(%q): %q, not %q", line, words, want)
	}
	if len(words) != strings.Count(line, " ")+1 {
		t.Fatalf("Words(%q): %d words", line, len(words))
	}
	if got := Join(words...); got != line {
		t.Fatalf("the words of %q, joined: %q", line, got)
	}
}

func TestWords(t *testing.T) {
	cases := []struct {
		line  string
		words []string
	}{
		{"", []string{""}},
		{" ", []string{"", ""}},
		{"  ", []string{"", "", ""}},
		{"     ", []string{"", "", "", "", "", ""}},
		{"a", []string{"a"}},
		{"put", []string{"put"}},
		{" a", []string{"", "a"}},
		{"a ", []string{"a", ""}},
		{" a ", []string{"", "a", ""}},
		{"  a  ", []string{"", "", "a", "", ""}},
		{"a b", []string{"a", "b"}},
		{"a  b", []string{"a", "", "b"}},
		{"a  b ", []string{"a", "", "b", ""}},
		{"a   b", []string{"a", "", "", "b"}},
		{"put 1 aa", []string{"put", "1", "aa"}},
		{"cache lru 2 1 0", []string{"cache", "lru", "2", "1", "0"}},
		{"a a a", []string{"a", "a", "a"}},
		{"a\tb", []string{"a\tb"}},
		{"a\nb", []string{"a\nb"}},
		{"a b\n", []string{"a", "b\n"}},
		{"\n \n", []string{"\n", "\n"}},
		{"a\rb\vc\fd\x00e", []string{"a\rb\vc\fd\x00e"}},
		{"a\u00a0b\u2003c\u3000d\u0085e", []string{"a\u00a0b\u2003c\u3000d\u0085e"}},
		{"\xc2 \xa0\xff", []string{"\xc2", "\xa0\xff"}},
		{"a,b;c-d", []string{"a,b;c-d"}},
	}
	for _, c := range cases {
		if got := Words(c.line); !slices.Equal(got, c.words) {
			t.Errorf("Words(%q): %q, not %q", c.line, got, c.words)
		}
		if got := Join(c.words...); got != c.line {
			t.Errorf("Join of %q: %q, not %q", c.words, got, c.line)
		}
	}
}

func TestWordsPartByTheBlankAlone(t *testing.T) {
	for c := range 256 {
		between := string([]byte{byte(c)})
		want := []string{"a" + between + "b"}
		if c == 32 {
			want = []string{"a", "b"}
		}
		if got := Words("a" + between + "b"); !slices.Equal(got, want) {
			t.Errorf("Words of a, the byte %d, b: %q", c, got)
		}
	}
}

func TestWordsOfAllShortLines(t *testing.T) {
	for length := range 12 {
		eachText(length, " a", func(s string) { checkWords(t, s) })
	}
	for length := range 7 {
		eachText(length, " ab\t\n\xff", func(s string) { checkWords(t, s) })
	}
}

func TestWordsOfLongLines(t *testing.T) {
	for _, line := range []string{
		strings.Repeat(" ", 20000), strings.Repeat("a", 20000), strings.Repeat("a ", 10000), strings.Repeat(" a", 10000),
		strings.Repeat("18446744073709551615 ", 900), strings.Repeat("ab  ", 5000),
	} {
		words := Words(line)
		if len(words) != strings.Count(line, " ")+1 || Join(words...) != line {
			t.Errorf("Words(%.40q..): %d words", line, len(words))
		}
	}
}

func TestWordsAnswersNewMemory(t *testing.T) {
	first := Words("a b c")
	second := Words("a b c")
	clear(first)
	_ = append(first[:1], "x", "y")
	if !slices.Equal(second, []string{"a", "b", "c"}) {
		t.Errorf("what was told once changed what was told again: %q", second)
	}
	if third := Words("a b c"); !slices.Equal(third, []string{"a", "b", "c"}) {
		t.Errorf("what was told changed a later call: %q", third)
	}
}

func TestJoin(t *testing.T) {
	if got := Join(); got != "" {
		t.Errorf("Join of no words: %q", got)
	}
	if got := Join(nil...); got != "" {
		t.Errorf("Join of nil: %q", got)
	}
	if got := Join([]string{}...); got != "" {
		t.Errorf("Join of an empty list: %q", got)
	}
	cases := []struct {
		words []string
		text  string
	}{
		{[]string{""}, ""},
		{[]string{"a"}, "a"},
		{[]string{" "}, " "},
		{[]string{"", ""}, " "},
		{[]string{"", "", ""}, "  "},
		{[]string{"a", ""}, "a "},
		{[]string{"", "a"}, " a"},
		{[]string{"a", "b"}, "a b"},
		{[]string{"b", "a"}, "b a"},
		{[]string{"a", "", "b"}, "a  b"},
		{[]string{"a b", "c"}, "a b c"},
		{[]string{" a ", " b "}, " a   b "},
		{[]string{"a\n", "\xff"}, "a\n \xff"},
		{[]string{"put", "1", "aa", "2", "bb"}, "put 1 aa 2 bb"},
	}
	for _, c := range cases {
		if got := Join(c.words...); got != c.text {
			t.Errorf("Join of %q: %q, not %q", c.words, got, c.text)
		}
	}
	if got := Join("a", "b", "", "c"); got != "a b  c" {
		t.Errorf("Join of a, b, nothing, c: %q", got)
	}
}

// Any number of words, of which some may have blanks of their own.
func TestJoinOfManyWords(t *testing.T) {
	kinds := []string{"", "a", "bc", " ", " d", "e f"}
	var words []string
	want := ""
	for i := range 2000 {
		word := kinds[i*i%7%len(kinds)]
		if i > 0 {
			want += " "
		}
		words, want = append(words, word), want+word
		if got := Join(words...); i%50 < 3 && got != want {
			t.Fatalf("Join of %d words: %.60q, not %.60q", len(words), got, want)
		}
	}
}

func TestJoinKeepsToWhatItIsGiven(t *testing.T) {
	room := []string{"a", "b", "", "c", "d", "e"}
	were := slices.Clone(room)
	if got := Join(room[1:4]...); got != "b  c" {
		t.Errorf("Join of a piece: %q", got)
	}
	if !slices.Equal(room, were) {
		t.Errorf("Join changed what it was given, or the room behind it: %q", room)
	}
	text := Join(room[:2]...)
	clear(room)
	if text != "a b" {
		t.Errorf("a text changed with the words that it was made of: %q", text)
	}
}

// P8.4

func checkNumber(t *testing.T, n uint64) {
	t.Helper()
	if got, ok := Read(Print(n)); got != n || !ok {
		t.Fatalf("%d is not read back: %d, %v", n, got, ok)
	}
	if got, ok := ReadInt(Int(int(n))); got != int(n) || !ok {
		t.Fatalf("%d is not read back as an int: %d, %v", int(n), got, ok)
	}
	if n <= math.MaxInt && Int(int(n)) != Print(n) {
		t.Fatalf("%d has two texts: %q, %q", n, Int(int(n)), Print(n))
	}
}

// checkText says that what is read from a text is told as just that text.
func checkText(t *testing.T, s string) {
	t.Helper()
	if n, ok := Read(s); ok && Print(n) != s {
		t.Fatalf("%q is read as %d", s, n)
	}
	if n, ok := ReadInt(s); ok && Int(n) != s {
		t.Fatalf("%q is read as the int %d", s, n)
	}
	if b, ok := ReadHex(s); ok && Hex(b) != s {
		t.Fatalf("%q is read as the bytes %v", s, b)
	}
	if got := Join(Words(s)...); got != s {
		t.Fatalf("the words of %q, joined: %q", s, got)
	}
}

func TestNumbersAreReadBack(t *testing.T) {
	for _, n := range someNumbers() {
		checkNumber(t, n)
	}
}

func TestOnlyWhatIsToldIsRead(t *testing.T) {
	for _, s := range noNumbers {
		checkText(t, s)
	}
	for length := range 6 {
		eachText(length, "01af-+ A", func(s string) { checkText(t, s) })
	}
}

func TestBytesAreReadBack(t *testing.T) {
	for high := range 256 {
		for low := range 256 {
			b := []byte{byte(high), byte(low)}
			if got, ok := ReadHex(Hex(b)); !ok || !bytes.Equal(got, b) {
				t.Fatalf("%v are not read back: %v, %v", b, got, ok)
			}
		}
	}
}

// Words without blanks, at least one of them, are told apart again.
func TestWordsAreReadBack(t *testing.T) {
	kinds := []string{"", "a", "bc", "\t", "-1", "\xff\n"}
	for i := range 6 * 6 * 6 * 6 {
		words := []string{kinds[i%6], kinds[i/6%6], kinds[i/36%6], kinds[i/216%6]}
		for count := 1; count <= len(words); count++ {
			if got := Words(Join(words[:count]...)); !slices.Equal(got, words[:count]) {
				t.Fatalf("%q are not told apart again: %q", words[:count], got)
			}
		}
	}
	if got := Words(Join()); !slices.Equal(got, []string{""}) {
		t.Errorf("no words, joined and parted: %q", got)
	}
}

func FuzzDigits(f *testing.F) {
	for _, c := range numbers {
		f.Add(c.n, c.text, []byte(c.text))
	}
	for _, s := range []string{"", "-0", "007", "+7", "0aff", "AB", "a  b ", "\xff", "-9223372036854775809"} {
		f.Add(uint64(len(s)), s, []byte(s))
	}
	f.Fuzz(func(t *testing.T, n uint64, s string, b []byte) {
		checkNumber(t, n)
		checkText(t, s)
		checkRead(t, s)
		checkReadHex(t, s)
		checkWords(t, s)
		if got, ok := ReadHex(Hex(b)); !ok || !bytes.Equal(got, b) {
			t.Fatalf("%v are not read back: %v, %v", b, got, ok)
		}
	})
}
