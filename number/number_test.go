package number

import (
	"math"
	"math/big"
	"regexp"
	"slices"
	"strings"
	"testing"

	"offside/api"
)

// atoms are what texts are put together of: digits at the edges of the bases, the letters of bases and exponents, points, signs, and what stands in no number.
var atoms = []string{
	"0", "1", "7", "8", "9", "a", "E", "e", "f", "G", "o", "O", "x", "X", ".", "+", "-", " ", "é", "\xff",
}

// fewAtoms are those that longer numbers are made of.
var fewAtoms = []string{"0", "5", "x", "o", "e", ".", "-"}

// integers are numbers of the kind Int.
var integers = []string{
	"0", "00", "000", "1", "7", "9", "10", "007", "100", "0100", "1234567890", "999999999", "1000000000", "1000000001", "999999999999999999", "1000000000000000000", "100000000000000000000000000000",
	"0o0", "0O0", "0o00", "0o7", "0O7", "0o10", "0o0017", "0O0100", "0o7654321", "0o7777777777", "0o7346545000", "0o7346544777",
	"0x0", "0X0", "0x00", "0xf", "0XF", "0x1F", "0X1f", "0x0010", "0x00fF", "0xe", "0xE1", "0xabcdef", "0XABCDEF", "0x3b9aca00", "0x3B9AC9FF", "0xffffffffffffffffffffffff",
}

// floats are numbers of the kind Float.
var floats = []string{
	"0.0", "00.00", "1.0", "1.5", "12.50", "0.5", "0.05", "00.050", "100.001", "007.700", "3.14159", "1000.0",
	"0e0", "0E0", "00e00", "1e3", "1E3", "1e+3", "1E+3", "1e-3", "1E-3", "0e9", "100e2", "0100e-2", "1e0", "1e+0", "1e-0", "1e007",
	"0.0e9", "0.0E-9", "00.00e+00", "1.5e-3", "1.5E3", "1.5e+3", "12.50e1", "0.05E-1", "5.00e10", "05.0e01",
	"1e1000000000", "1e-1000000000", "1e+0001000000000", "0.10E-999999999",
}

// notNumbers are texts of which none is exactly one number.
var notNumbers = []string{
	"", " ", "x", "e", "o", ".", "+", "-", "e1", "E5", ".5", ".e1", "-1", "+1", "-0.5", "x1", "o7", "_1", "'1'", "\"1\"", "()", "xff", "a", "f",
	"1 ", " 1", "1\n", "1 2", "1,2", "1_000", "1'", "1x", "1a", "1e", "1E", "1e+", "1e-", "1E+ 1", "1e +1", "1e++1", "1e+-1", "1e1.5", "1e1e1", "1e0x1", "1e1 ", "2e\n",
	"1.", "1.e1", "1. 5", "1 .5", "1..2", "1.5.", "1.5.5", "1.5e", "1.5e+", "1.5e-", "1.5x", "1.-5", "1.+", "0.", "0.x1", "0.e", " 1.5", "1.5 ",
	"0o", "0O", "0x", "0X", "0o8", "0O9", "0oa", "0o78", "0o1.5", "0o1e5", "0xg", "0XG", "0x1g", "0x1.5", "0x1p3", "0x.1", "0o.1", "0x-1", "0x+1", "00x1", "00o1", "1x1", "1o1", "0xx1", "0ox1", "0b1", "0B1", "0b", "0o 1", "0x 1", "0x1 ",
	"\xff", "\x80", "1\xff", "\xff1", "1.\xff", "1.5\xff", "1e\xff", "0x\xff", "0x1\x80", "1\xc3", "1\xe2\x86", "\xc31", "1é", "é1", "１", "٣", "²", "1²", "\ufffd", "1\ufffd", "\x00", "1\x00", "😀", "λ",
}

// The chapter's words as patterns.
var (
	oneInteger  = regexp.MustCompile(`\A(?:([0-9]+)|0[oO]([0-7]+)|0[xX]([0-9a-fA-F]+))\z`)
	oneFloat    = regexp.MustCompile(`\A([0-9]+)(?:\.([0-9]+))?(?:[eE]([+-]?[0-9]+))?\z`)
	shortDigits = regexp.MustCompile(`\A(?:0|[1-9]|[1-9][0-9]*[1-9])\z`)
)

// wantedKind is the kind of the number that s is, or NoKind.
func wantedKind(s string) int {
	switch {
	case oneInteger.MatchString(s):
		return api.Int
	case oneFloat.MatchString(s):
		return api.Float
	}
	return api.NoKind
}

// wantedScan is the longest number that begins at the byte at.
func wantedScan(s string, at int) (kind, end int) {
	for e := len(s); e > at; e-- {
		if k := wantedKind(s[at:e]); k != api.NoKind {
			return k, e
		}
	}
	return api.NoKind, 0
}

// inBase reads digits by a way that package number does not take.
func inBase(digits string, base int) *big.Int {
	n, ok := new(big.Int).SetString(digits, base)
	if !ok {
		panic("no number: " + digits)
	}
	return n
}

// wantedInteger is the value of s, which is an integer.
func wantedInteger(s string) *big.Int {
	m := oneInteger.FindStringSubmatch(s)
	switch {
	case m[1] != "":
		return inBase(m[1], 10)
	case m[2] != "":
		return inBase(m[2], 8)
	}
	return inBase(m[3], 16)
}

// wantedFloat is s, which is a floating-point number, as an integer and a power of ten, as s has them.
func wantedFloat(s string) (digits, tens *big.Int) {
	m := oneFloat.FindStringSubmatch(s)
	tens = new(big.Int)
	if m[3] != "" {
		tens = inBase(m[3], 10)
	}
	return inBase(m[1]+m[2], 10), tens.Sub(tens, big.NewInt(int64(len(m[2]))))
}

// timesTen is n times ten to the power of tens, which is not negative.
func timesTen(n *big.Int, tens int64) *big.Int {
	power := new(big.Int).Exp(big.NewInt(10), big.NewInt(tens), nil)
	return power.Mul(power, n)
}

// isLong reports whether s, a floating-point number, has an exponent that is too far from zero.
func isLong(s string) bool {
	m := oneFloat.FindStringSubmatch(s)
	return m[3] != "" && inBase(m[3], 10).CmpAbs(big.NewInt(1000000000)) > 0
}

// eachText calls f with the numbers, the texts that are none, and the texts of up to four atoms or six of the few.
func eachText(f func(s string)) {
	for _, s := range slices.Concat(integers, floats, notNumbers) {
		f(s)
	}
	eachJoined(atoms, 4, f)
	eachJoined(fewAtoms, 6, f)
}

func eachJoined(parts []string, most int, f func(s string)) {
	level := []string{""}
	for range most {
		var next []string
		for _, s := range level {
			for _, p := range parts {
				f(s + p)
				next = append(next, s+p)
			}
		}
		level = next
	}
}

// padded is s, a number, with n bytes: zeros stand ahead of its digits.
func padded(s string, n int) string {
	begin := 0
	if len(s) > 1 && s[0] == '0' && strings.ContainsAny(s[1:2], "oOxX") {
		begin = 2
	}
	return s[:begin] + strings.Repeat("0", n-len(s)) + s[begin:]
}

func TestScanKnown(t *testing.T) {
	for _, x := range []struct {
		s             string
		at, kind, end int
	}{
		{"0", 0, api.Int, 1},
		{"00", 0, api.Int, 2},
		{"000x1", 0, api.Int, 3},
		{"42 ", 0, api.Int, 2},
		{"a42", 1, api.Int, 3},
		{"1234", 2, api.Int, 4},
		{"12a", 0, api.Int, 2},
		{"12é", 0, api.Int, 2},
		{"12\xff", 0, api.Int, 2},
		{"-1", 0, api.NoKind, 0},
		{"-1", 1, api.Int, 2},
		{"1_000", 0, api.Int, 1},
		{"0b11", 0, api.Int, 1},
		{"0o17", 0, api.Int, 4},
		{"0O17", 0, api.Int, 4},
		{"0o", 0, api.Int, 1},
		{"0O", 0, api.Int, 1},
		{"0o8", 0, api.Int, 1},
		{"0O9", 0, api.Int, 1},
		{"0oa", 0, api.Int, 1},
		{"0o18", 0, api.Int, 3},
		{"0O7f", 0, api.Int, 3},
		{"0o17", 2, api.Int, 4},
		{"0o1.5", 0, api.Int, 3},
		{"0o1e5", 0, api.Int, 3},
		{"0x1Fg", 0, api.Int, 4},
		{"0X1fG", 0, api.Int, 4},
		{"0xAbCdEf", 0, api.Int, 8},
		{"0x", 0, api.Int, 1},
		{"0X", 0, api.Int, 1},
		{"0xg", 0, api.Int, 1},
		{"0XG", 0, api.Int, 1},
		{"0x1.5", 0, api.Int, 3},
		{"0x1e+5", 0, api.Int, 4},
		{"0x8", 0, api.Int, 3},
		{"0X9", 0, api.Int, 3},
		{"0xa", 0, api.Int, 3},
		{"0XA", 0, api.Int, 3},
		{"00x1", 0, api.Int, 2},
		{"00x1", 1, api.Int, 4},
		{"1x1", 0, api.Int, 1},
		{"1o1", 0, api.Int, 1},
		{"0ox1", 0, api.Int, 1},
		{"0x0x1", 0, api.Int, 3},
		{"1.5", 0, api.Float, 3},
		{"1.5", 1, api.NoKind, 0},
		{"1.5", 2, api.Int, 3},
		{"1.", 0, api.Int, 1},
		{"1.x", 0, api.Int, 1},
		{"1..5", 0, api.Int, 1},
		{"1.é", 0, api.Int, 1},
		{".5", 0, api.NoKind, 0},
		{"1.5.7", 0, api.Float, 3},
		{"1.5.7", 2, api.Float, 5},
		{"1.5a", 0, api.Float, 3},
		{"1.0x1", 0, api.Float, 3},
		{"1.e", 0, api.Int, 1},
		{"1.e5", 0, api.Int, 1},
		{"1.5e-3", 0, api.Float, 6},
		{"1.5E-3", 0, api.Float, 6},
		{"1.5e+3", 0, api.Float, 6},
		{"1.5E+3", 0, api.Float, 6},
		{"1.5e3", 0, api.Float, 5},
		{"1.5E3", 0, api.Float, 5},
		{"1.5e", 0, api.Float, 3},
		{"1.5E", 0, api.Float, 3},
		{"1.5e+", 0, api.Float, 3},
		{"1.5E-", 0, api.Float, 3},
		{"1.5e-x", 0, api.Float, 3},
		{"1.5e--3", 0, api.Float, 3},
		{"1.5e3.5", 0, api.Float, 5},
		{"1.5e3e4", 0, api.Float, 5},
		{"2e3", 0, api.Float, 3},
		{"2E3", 0, api.Float, 3},
		{"2e+3", 0, api.Float, 4},
		{"2E+1x", 0, api.Float, 4},
		{"2e-3", 0, api.Float, 4},
		{"2E-3", 0, api.Float, 4},
		{"2e", 0, api.Int, 1},
		{"2E", 0, api.Int, 1},
		{"2e+", 0, api.Int, 1},
		{"2e-", 0, api.Int, 1},
		{"2E+", 0, api.Int, 1},
		{"2E-", 0, api.Int, 1},
		{"2e 3", 0, api.Int, 1},
		{"2e+ 3", 0, api.Int, 1},
		{"2e+-3", 0, api.Int, 1},
		{"2ex", 0, api.Int, 1},
		{"2e0x1", 0, api.Float, 3},
		{"2e007", 0, api.Float, 5},
		{"0e0", 0, api.Float, 3},
		{"00.00e-00", 0, api.Float, 9},
		{"0.0", 0, api.Float, 3},
		{"é1", 0, api.NoKind, 0},
		{"é1", 1, api.NoKind, 0},
		{"é1", 2, api.Int, 3},
		{"１", 0, api.NoKind, 0},
		{"1２", 0, api.Int, 1},
		{"\xff1", 0, api.NoKind, 0},
		{"\xff1", 1, api.Int, 2},
	} {
		if kind, end := Scan(x.s, x.at); kind != x.kind || end != x.end {
			t.Errorf("D1: Scan(%q, %d) = %d, %d, not %d, %d", x.s, x.at, kind, end, x.kind, x.end)
		}
	}
}

func TestScanOutside(t *testing.T) {
	for _, s := range slices.Concat(integers, floats, notNumbers) {
		for _, at := range []int{-1, math.MinInt, len(s), len(s) + 1, math.MaxInt} {
			if kind, end := Scan(s, at); kind != api.NoKind || end != 0 {
				t.Errorf("D1: Scan(%q, %d) = %d, %d", s, at, kind, end)
			}
		}
	}
}

func TestScanEverywhere(t *testing.T) {
	eachText(func(s string) {
		for at := range len(s) {
			wantKind, wantEnd := wantedScan(s, at)
			if kind, end := Scan(s, at); kind != wantKind || end != wantEnd {
				t.Fatalf("D1: Scan(%q, %d) = %d, %d, not %d, %d", s, at, kind, end, wantKind, wantEnd)
			}
		}
	})
}

func TestValueKnown(t *testing.T) {
	for _, x := range []struct {
		s     string
		value int
		e     api.Errno
	}{
		{"0", 0, api.OK},
		{"000", 0, api.OK},
		{"0o0", 0, api.OK},
		{"0X00", 0, api.OK},
		{"42", 42, api.OK},
		{"017", 17, api.OK},
		{"0o17", 15, api.OK},
		{"0O017", 15, api.OK},
		{"0x1F", 31, api.OK},
		{"0X001f", 31, api.OK},
		{"0xe1", 225, api.OK},
		{"4611686018427387903", 1<<62 - 1, api.OK},
		{"4611686018427387904", 1 << 62, api.OK},
		{"4611686018427387905", 0, api.ErrLong},
		{"0004611686018427387903", 1<<62 - 1, api.OK},
		{"0004611686018427387904", 1 << 62, api.OK},
		{"0004611686018427387905", 0, api.ErrLong},
		{"46116860184273879040", 0, api.ErrLong},
		{"0o377777777777777777777", 1<<62 - 1, api.OK},
		{"0o400000000000000000000", 1 << 62, api.OK},
		{"0o400000000000000000001", 0, api.ErrLong},
		{"0O00400000000000000000000", 1 << 62, api.OK},
		{"0O00400000000000000000001", 0, api.ErrLong},
		{"0o777777777777777777777", 0, api.ErrLong},
		{"0o2000000000000000000000", 0, api.ErrLong},
		{"0x3fffffffffffffff", 1<<62 - 1, api.OK},
		{"0x4000000000000000", 1 << 62, api.OK},
		{"0x4000000000000001", 0, api.ErrLong},
		{"0X004000000000000000", 1 << 62, api.OK},
		{"0X004000000000000001", 0, api.ErrLong},
		{"0x7fffffffffffffff", 0, api.ErrLong},
		{"0x8000000000000000", 0, api.ErrLong},
		{"0xffffffffffffffff", 0, api.ErrLong},
		{"0x10000000000000000", 0, api.ErrLong},
		{"0x10000000000000001", 0, api.ErrLong},
		{"9223372036854775807", 0, api.ErrLong},
		{"9223372036854775808", 0, api.ErrLong},
		{"18446744073709551616", 0, api.ErrLong},
		{"18446744073709551617", 0, api.ErrLong},
		{"99999999999999999999999999999999999999999", 0, api.ErrLong},
		{"9999999999999999999999999x", 0, api.ErrNumber},
		{"99999999999999999999999.9", 0, api.ErrNumber},
		{"1.0", 0, api.ErrNumber},
		{"1e3", 0, api.ErrNumber},
	} {
		if value, e := Value(x.s); value != x.value || e != x.e {
			t.Errorf("D2: Value(%q) = %d, %d, not %d, %d", x.s, value, e, x.value, x.e)
		}
	}
}

// TestValueZerosAhead has zeros ahead of the digits, as many as there may be: the value alone decides, and not the bytes.
func TestValueZerosAhead(t *testing.T) {
	for _, x := range []struct {
		s     string
		value int
		e     api.Errno
	}{
		{"0", 0, api.OK},
		{"4611686018427387904", 1 << 62, api.OK},
		{"4611686018427387905", 0, api.ErrLong},
		{"0o400000000000000000000", 1 << 62, api.OK},
		{"0x4000000000000001", 0, api.ErrLong},
		{"0xff", 255, api.OK},
	} {
		for _, n := range []int{999, 1000, 1001, 1 << 20} {
			if value, e := Value(padded(x.s, n)); value != x.value || e != x.e {
				t.Errorf("D2: Value of %s with %d bytes is %d, %d", x.s, n, value, e)
			}
		}
	}
}

func TestValueEverywhere(t *testing.T) {
	eachText(func(s string) {
		want, wantE := 0, api.ErrNumber
		if wantedKind(s) == api.Int {
			n := wantedInteger(s)
			wantE = api.ErrLong
			if n.Cmp(big.NewInt(1<<62)) <= 0 {
				want, wantE = int(n.Int64()), api.OK
			}
		}
		if value, e := Value(s); value != want || e != wantE {
			t.Fatalf("D2: Value(%q) = %d, %d, not %d, %d", s, value, e, want, wantE)
		}
	})
}

// TestValueEdges goes around the greatest value, and around the ints' ends, in each base.
func TestValueEdges(t *testing.T) {
	for _, power := range []uint{62, 63, 64} {
		for by := int64(-40); by <= 40; by++ {
			n := new(big.Int).Lsh(big.NewInt(1), power)
			n.Add(n, big.NewInt(by))
			want, wantE := 0, api.ErrLong
			if power == 62 && by <= 0 {
				want, wantE = int(n.Int64()), api.OK
			}
			for _, s := range []string{n.Text(10), "0o" + n.Text(8), "0X" + n.Text(16)} {
				if value, e := Value(s); value != want || e != wantE {
					t.Errorf("D2: Value(%q) = %d, %d, not %d, %d", s, value, e, want, wantE)
				}
			}
		}
	}
}

func TestDecimalKnown(t *testing.T) {
	for _, x := range []struct {
		s, want string
		e       api.Errno
	}{
		{"0", "0", api.OK},
		{"000", "0", api.OK},
		{"0o000", "0", api.OK},
		{"0X0", "0", api.OK},
		{"007", "7", api.OK},
		{"1000", "1000", api.OK},
		{"0o17", "15", api.OK},
		{"0O0017", "15", api.OK},
		{"0xff", "255", api.OK},
		{"0XFF", "255", api.OK},
		{"0x00fF", "255", api.OK},
		{"999999999", "999999999", api.OK},
		{"1000000000", "1000000000", api.OK},
		{"1000000001", "1000000001", api.OK},
		{"12000000034000000056", "12000000034000000056", api.OK},
		{"0x3b9aca00", "1000000000", api.OK},
		{"0xffffffffffffffffffff", "1208925819614629174706175", api.OK},
		{"0o777777777777777777777777", "4722366482869645213695", api.OK},
		{"0xde0b6b3a7640000", "1000000000000000000", api.OK},
		{"4611686018427387905", "4611686018427387905", api.OK},
		{"1.0", "", api.ErrNumber},
		{"1e3", "", api.ErrNumber},
		{"0xg", "", api.ErrNumber},
		{" 1", "", api.ErrNumber},
	} {
		if got, e := Decimal(x.s); got != x.want || e != x.e {
			t.Errorf("D3: Decimal(%q) = %q, %d, not %q, %d", x.s, got, e, x.want, x.e)
		}
	}
}

func TestDecimalEverywhere(t *testing.T) {
	eachText(func(s string) {
		want, wantE := "", api.ErrNumber
		if wantedKind(s) == api.Int {
			want, wantE = wantedInteger(s).String(), api.OK
		}
		if got, e := Decimal(s); got != want || e != wantE {
			t.Fatalf("D3: Decimal(%q) = %q, %d, not %q, %d", s, got, e, want, wantE)
		}
	})
}

// TestDecimalLong has integers of each base with every number of digits, and the edges of 1000 bytes.
func TestDecimalLong(t *testing.T) {
	for _, x := range []struct{ prefix, digits string }{
		{"", "1234567890"}, {"", "9"}, {"", "1000000000"}, {"", "0"}, {"0o", "7"}, {"0O", "76543210"}, {"0o", "0"}, {"0x", "f"}, {"0X", "123456789abcdef0"}, {"0x", "0"},
	} {
		for n := len(x.prefix) + 1; n <= 1003; n++ {
			s := x.prefix + strings.Repeat(x.digits, n)[:n-len(x.prefix)]
			want, wantE := wantedInteger(s).String(), api.OK
			if n > 1000 {
				want, wantE = "", api.ErrLong
			}
			if got, e := Decimal(s); got != want || e != wantE {
				t.Fatalf("D3: Decimal(%q) = %q, %d, not %q, %d", s, got, e, want, wantE)
			}
		}
	}
	if got, e := Decimal("1" + strings.Repeat("0", 1000) + "x"); got != "" || e != api.ErrNumber {
		t.Errorf("D3: a long text that is no number: %q, %d", got, e)
	}
}

// TestDecimalLimbs has numbers around every power of ten, where the digits of a limb are zeros or nines.
func TestDecimalLimbs(t *testing.T) {
	for tens := range int64(60) {
		for by := int64(-2); by <= 2; by++ {
			n := timesTen(big.NewInt(1), tens)
			n.Add(n, big.NewInt(by))
			if n.Sign() < 0 {
				continue
			}
			for _, s := range []string{n.Text(10), "0o" + n.Text(8), "0x" + n.Text(16)} {
				if got, e := Decimal(s); got != n.String() || e != api.OK {
					t.Errorf("D3: Decimal(%q) = %q, %d, not %s", s, got, e, n)
				}
			}
		}
	}
}

func TestFloatKnown(t *testing.T) {
	for _, x := range []struct {
		s, digits string
		tens      int
		e         api.Errno
	}{
		{"12.50", "125", -1, api.OK},
		{"0.0e9", "0", 0, api.OK},
		{"0.0", "0", 0, api.OK},
		{"00.000", "0", 0, api.OK},
		{"0e0", "0", 0, api.OK},
		{"0e1000000000", "0", 0, api.OK},
		{"000E-1000000000", "0", 0, api.OK},
		{"1.0", "1", 0, api.OK},
		{"1.5", "15", -1, api.OK},
		{"001.500", "15", -1, api.OK},
		{"0.05", "5", -2, api.OK},
		{"0.050", "5", -2, api.OK},
		{"100.0", "1", 2, api.OK},
		{"100.5", "1005", -1, api.OK},
		{"100.001", "100001", -3, api.OK},
		{"1e3", "1", 3, api.OK},
		{"1E+3", "1", 3, api.OK},
		{"1e-3", "1", -3, api.OK},
		{"1e-0", "1", 0, api.OK},
		{"1e+000", "1", 0, api.OK},
		{"100e2", "1", 4, api.OK},
		{"100e-2", "1", 0, api.OK},
		{"0100e-3", "1", -1, api.OK},
		{"1.5e-3", "15", -4, api.OK},
		{"1.5E3", "15", 2, api.OK},
		{"0.05E-1", "5", -3, api.OK},
		{"12.50e1", "125", 0, api.OK},
		{"10.10e+10", "101", 9, api.OK},
		{"1e999999999", "1", 999999999, api.OK},
		{"1e1000000000", "1", 1000000000, api.OK},
		{"1e1000000001", "", 0, api.ErrLong},
		{"1e+999999999", "1", 999999999, api.OK},
		{"1e+1000000000", "1", 1000000000, api.OK},
		{"1e+1000000001", "", 0, api.ErrLong},
		{"1e-999999999", "1", -999999999, api.OK},
		{"1e-1000000000", "1", -1000000000, api.OK},
		{"1e-1000000001", "", 0, api.ErrLong},
		{"1e00000000000000000000999999999", "1", 999999999, api.OK},
		{"1e00000000000000000001000000000", "1", 1000000000, api.OK},
		{"1e00000000000000000001000000001", "", 0, api.ErrLong},
		{"1.5E-00000000000000000001000000000", "15", -1000000001, api.OK},
		{"1.5E-00000000000000000001000000001", "", 0, api.ErrLong},
		{"100e1000000000", "1", 1000000002, api.OK},
		{"0.001e-1000000000", "1", -1000000003, api.OK},
		{"0.001e1000000001", "", 0, api.ErrLong},
		{"100e-1000000001", "", 0, api.ErrLong},
		{"0e1000000001", "", 0, api.ErrLong},
		{"0.0e-1000000001", "", 0, api.ErrLong},
		{"1e4611686018427387904", "", 0, api.ErrLong},
		{"1e-4611686018427387905", "", 0, api.ErrLong},
		{"1e18446744073709551616", "", 0, api.ErrLong},
		{"1e-18446744073709551617", "", 0, api.ErrLong},
		{"1", "", 0, api.ErrNumber},
		{"0", "", 0, api.ErrNumber},
		{"0x1F", "", 0, api.ErrNumber},
		{"0o17", "", 0, api.ErrNumber},
		{"1e", "", 0, api.ErrNumber},
		{"1.", "", 0, api.ErrNumber},
		{"1.5e1000000001x", "", 0, api.ErrNumber},
	} {
		if digits, tens, e := Float(x.s); digits != x.digits || tens != x.tens || e != x.e {
			t.Errorf("D4: Float(%q) = %q, %d, %d, not %q, %d, %d", x.s, digits, tens, e, x.digits, x.tens, x.e)
		}
	}
}

func TestFloatEverywhere(t *testing.T) {
	eachText(func(s string) {
		digits, tens, e := Float(s)
		if wantedKind(s) != api.Float || isLong(s) {
			want := api.ErrNumber
			if wantedKind(s) == api.Float {
				want = api.ErrLong
			}
			if digits != "" || tens != 0 || e != want {
				t.Fatalf("D4: Float(%q) = %q, %d, %d, not %d", s, digits, tens, e, want)
			}
			return
		}
		if e != api.OK || !shortDigits.MatchString(digits) {
			t.Fatalf("D4: Float(%q) = %q, %d, %d", s, digits, tens, e)
		}
		wantDigits, wantTens := wantedFloat(s)
		if digits == "0" {
			if tens != 0 || wantDigits.Sign() != 0 {
				t.Fatalf("D4: Float(%q) = %q, %d", s, digits, tens)
			}
			return
		}
		zeros := int64(tens) - wantTens.Int64() // those that s has at the end of its digits, and Float has not
		if zeros < 0 || timesTen(inBase(digits, 10), zeros).Cmp(wantDigits) != 0 {
			t.Fatalf("D4: Float(%q) = %q, %d", s, digits, tens)
		}
	})
}

// TestFloatLong has floating-point numbers whose bytes stand in each of their parts, and the edges of 1000 bytes.
func TestFloatLong(t *testing.T) {
	zeros := func(n int) string { return strings.Repeat("0", n) }
	for n := 995; n <= 1005; n++ {
		nines := strings.Repeat("9", n-2)
		for _, x := range []struct {
			s, digits string
			tens      int
		}{
			{"1." + nines, "1" + nines, 2 - n},
			{nines + ".0", nines, 0},
			{"1." + zeros(n-2), "1", 0},
			{"0." + zeros(n-2), "0", 0},
			{"0." + zeros(n-3) + "1", "1", 2 - n},
			{zeros(n-2) + ".5", "5", -1},
			{nines[2:] + "e-12", nines[2:], -12},
			{"1" + zeros(n-3) + "e1", "1", n - 2},
			{"7e-" + zeros(n-4) + "1", "7", -1},
			{"7E" + zeros(n-12) + "1000000000", "7", 1000000000},
			{"7.0e+" + zeros(n-5), "7", 0},
		} {
			if len(x.s) != n {
				t.Fatalf("D4: the test's text has %d bytes, not %d", len(x.s), n)
			}
			wantE := api.OK
			if n > 1000 {
				x.digits, x.tens, wantE = "", 0, api.ErrLong
			}
			if digits, tens, e := Float(x.s); digits != x.digits || tens != x.tens || e != wantE {
				t.Errorf("D4: Float(%q) = %q, %d, %d, not %q, %d, %d", x.s, digits, tens, e, x.digits, x.tens, wantE)
			}
		}
		for _, s := range []string{nines + ".5x", nines, nines + ".", "1e" + nines + "."} {
			if digits, tens, e := Float(s); digits != "" || tens != 0 || e != api.ErrNumber {
				t.Errorf("D4: Float(%q) = %q, %d, %d", s, digits, tens, e)
			}
		}
	}
}

// TestWrongKinds asks the calls for what is no number, or one of the other kind.
func TestWrongKinds(t *testing.T) {
	noInt := func(s string) {
		if value, e := Value(s); value != 0 || e != api.ErrNumber {
			t.Errorf("D2: Value(%q) = %d, %d", s, value, e)
		}
		if got, e := Decimal(s); got != "" || e != api.ErrNumber {
			t.Errorf("D3: Decimal(%q) = %q, %d", s, got, e)
		}
	}
	noFloat := func(s string) {
		if digits, tens, e := Float(s); digits != "" || tens != 0 || e != api.ErrNumber {
			t.Errorf("D4: Float(%q) = %q, %d, %d", s, digits, tens, e)
		}
	}
	for _, s := range notNumbers {
		if kind, end := Scan(s, 0); kind != api.NoKind && end == len(s) {
			t.Errorf("D1: Scan(%q, 0) = %d, %d", s, kind, end)
		}
		noInt(s)
		noFloat(s)
	}
	for _, s := range integers {
		if kind, end := Scan(s, 0); kind != api.Int || end != len(s) {
			t.Errorf("D1: Scan(%q, 0) = %d, %d", s, kind, end)
		}
		noFloat(s)
	}
	for _, s := range floats {
		if kind, end := Scan(s, 0); kind != api.Float || end != len(s) {
			t.Errorf("D1: Scan(%q, 0) = %d, %d", s, kind, end)
		}
		noInt(s)
	}
}

func TestSameKnown(t *testing.T) {
	lettered := func(tens int64) string { return "0x" + timesTen(big.NewInt(1), tens).Text(16) }
	groups := [][]string{
		{"0", "000", "0o0", "0O00", "0x0", "0X00", "0.0", "00.00", "0e0", "0E-1000000000", "0.0e1000000000"},
		{"10", "010", "0o12", "0O0012", "0xA", "0XA", "0x00a", "10.0", "1e1", "1E+1", "1.0e01", "100e-1", "0.1e2", "0.010E3"},
		{"1", "1.0", "01.00", "10e-1", "0.1e1", "0x1", "0O1"},
		{"0.1", "1e-1", "00.10", "0.01e1", "10.0E-2"},
		{"11", "1.1e1", "0xB", "0o13"},
		{"101", "1.01e2", "0x65"},
		{"4611686018427387905", "0x4000000000000001", "0o400000000000000000001", "4611686018427387905.0", "4.611686018427387905e18"},
		{"18446744073709551617", "0x10000000000000001"},
		{"1e1000000000", "10e999999999", "1.0e1000000000"},
		{"1e999999999", "0.1E+1000000000"},
		{"1e-1000000000", "0.1e-999999999", "00.10E-999999999"},
		{lettered(999), "1e999", "1" + strings.Repeat("0", 999), "0.001E1002"},
		{lettered(1100), "1e1100", "100e1098"},
	}
	for i, group := range groups {
		for j, other := range groups {
			for _, a := range group {
				for _, b := range other {
					if got := Same(a, b); got != (i == j) {
						t.Errorf("D5: Same(%q, %q) is %v", a, b, got)
					}
				}
			}
		}
	}
}

// TestSameWrong has texts for which Decimal and Float return errors: they are not even the same as themselves.
func TestSameWrong(t *testing.T) {
	long := strings.Repeat("0", 1000)
	wrong := slices.Concat(notNumbers, []string{
		long + "1", "0x" + long, "0o" + long, long + ".0", "1." + long, "1e" + long, "1" + long,
		"1e1000000001", "0e1000000001", "1.0e-1000000001", "10e18446744073709551616",
	})
	for _, a := range wrong {
		for _, b := range slices.Concat([]string{"0", "1", "10", "0x1", "1.0", "0.0", "1e3", "10e18446744073709551615"}, wrong) {
			if Same(a, b) || Same(b, a) {
				t.Errorf("D5: %q is the same as %q", a, b)
			}
		}
	}
}

// canonical is the value of s as a text that no other value has; nothing if s is no number.
func canonical(s string) string {
	n, tens := new(big.Int), new(big.Int)
	switch wantedKind(s) {
	case api.NoKind:
		return ""
	case api.Int:
		n = wantedInteger(s)
	case api.Float:
		n, tens = wantedFloat(s)
	}
	if n.Sign() == 0 {
		return "0"
	}
	ten, one := big.NewInt(10), big.NewInt(1)
	for {
		q, r := new(big.Int).QuoRem(n, ten, new(big.Int))
		if r.Sign() != 0 {
			return n.String() + " " + tens.String()
		}
		n = q
		tens.Add(tens, one)
	}
}

func TestSameEverywhere(t *testing.T) {
	texts := slices.Concat(integers, floats, notNumbers)
	eachJoined([]string{"0", "1", "x", "e", "."}, 5, func(s string) {
		if canonical(s) != "" {
			texts = append(texts, s)
		}
	})
	wants := make([]string, len(texts))
	for i, s := range texts {
		wants[i] = canonical(s)
	}
	for i, a := range texts {
		for j, b := range texts {
			want := wants[i] != "" && wants[i] == wants[j]
			if got := Same(a, b); got != want {
				t.Fatalf("D5: Same(%q, %q) is %v", a, b, got)
			}
		}
	}
}

// TestDecimalOfDecimal has results of at most 1000 bytes; beyond them D3 asks for ErrLong.
func TestDecimalOfDecimal(t *testing.T) {
	again := func(s string) {
		first, e := Decimal(s)
		if e != api.OK {
			return
		}
		if second, e := Decimal(first); second != first || e != api.OK {
			t.Fatalf("D6: Decimal(%q) = %q, but then %q, %d", s, first, second, e)
		}
		if !Same(s, first) {
			t.Fatalf("D6: Decimal(%q) = %q has another value", s, first)
		}
	}
	eachText(again)
	for n := range 830 {
		again("0x" + strings.Repeat("f", n))
	}
	for n := 990; n <= 1000; n++ {
		again(strings.Repeat("9", n))
		again("0o" + strings.Repeat("7", n-2))
		again(padded("0xff", n))
	}
	s := "0x" + strings.Repeat("f", 998)
	first, e := Decimal(s)
	if len(first) != 1202 || e != api.OK {
		t.Errorf("D3: Decimal(%q) = %q, %d", s, first, e)
	}
	if second, e := Decimal(first); second != "" || e != api.ErrLong {
		t.Errorf("D3: Decimal(%q) = %q, %d", first, second, e)
	}
}

func TestFoundNumbersAreNumbers(t *testing.T) {
	eachText(func(s string) {
		for at := range len(s) {
			kind, end := Scan(s, at)
			if kind == api.NoKind {
				continue
			}
			if end <= at || end > len(s) {
				t.Fatalf("D6: Scan(%q, %d) ends at %d", s, at, end)
			}
			found := s[at:end]
			if again, all := Scan(found, 0); again != kind || all != len(found) {
				t.Fatalf("D6: Scan(%q, %d) finds %q of the kind %d, which by itself is %d, %d", s, at, found, kind, again, all)
			}
			_, e := Decimal(found)
			if kind == api.Float {
				_, _, e = Float(found)
			}
			if e != api.OK && e != api.ErrLong {
				t.Fatalf("D6: Scan(%q, %d) finds %q, which returns %d", s, at, found, e)
			}
		}
	})
}

// sameValue holds a number against another way to write it.
func sameValue(t *testing.T, a, b string) {
	t.Helper()
	firstValue, e := Value(a)
	if secondValue, again := Value(b); firstValue != secondValue || e != again {
		t.Fatalf("D6: the values of %q and %q are %d, %d", a, b, firstValue, secondValue)
	}
	first, e := Decimal(a)
	if second, again := Decimal(b); first != second || e != again {
		t.Fatalf("D6: the decimals of %q and %q are %q, %q", a, b, first, second)
	}
	digits, tens, e := Float(a)
	if others, places, again := Float(b); digits != others || tens != places || e != again {
		t.Fatalf("D6: the floats of %q and %q are %q, %d and %q, %d", a, b, digits, tens, others, places)
	}
	if long := wantedKind(a) == api.Float && isLong(a); Same(a, b) == long {
		t.Fatalf("D6: Same(%q, %q) is %v", a, b, !long)
	}
}

func TestZerosDoNotMatter(t *testing.T) {
	eachText(func(s string) {
		if wantedKind(s) == api.NoKind {
			return
		}
		sameValue(t, s, padded(s, len(s)+1))
		sameValue(t, s, padded(s, len(s)+20))
		if strings.Contains(s, ".") && !strings.ContainsAny(s, "eE") {
			sameValue(t, s, s+"0")
			sameValue(t, s, s+strings.Repeat("0", 20))
		}
	})
}

// TestLongNumbers holds the calls to times that grow as their texts do.
func TestLongNumbers(t *testing.T) {
	const n = 1 << 20
	digits := strings.Repeat("1234567", n)
	for _, x := range []struct {
		s    string
		kind int
	}{
		{digits, api.Int}, {"0o" + digits, api.Int}, {"0x" + digits, api.Int}, {digits + "." + digits, api.Float}, {"1e-" + digits, api.Float}, {digits + "." + digits + "E+" + digits, api.Float},
	} {
		if kind, end := Scan(x.s, 0); kind != x.kind || end != len(x.s) {
			t.Errorf("D1: Scan = %d, %d, not %d, %d", kind, end, x.kind, len(x.s))
		}
		isInt, isFloat := api.ErrLong, api.ErrNumber
		if x.kind == api.Float {
			isInt, isFloat = isFloat, isInt
		}
		if value, e := Value(x.s); value != 0 || e != isInt {
			t.Errorf("D2: Value = %d, %d", value, e)
		}
		if got, e := Decimal(x.s); got != "" || e != isInt {
			t.Errorf("D3: Decimal has %d bytes, %d", len(got), e)
		}
		if got, tens, e := Float(x.s); got != "" || tens != 0 || e != isFloat {
			t.Errorf("D4: Float has %d bytes, %d, %d", len(got), tens, e)
		}
		if Same(x.s, x.s) {
			t.Error("D5: a number that is too long is the same as itself")
		}
	}
}
