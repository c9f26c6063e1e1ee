package num

import (
	"fmt"
	"math"
	"slices"
	"strings"
	"testing"

	"postilion/api"
)

// numbers are the edges of 32 and 64 bits, and ordinary numbers between them.
func numbers() []int {
	l := []int{0, 1, 2, 9, 10, 255, 256, 65535, 65536, 123456789, 0xd00dfeed}
	for _, bit := range []int{7, 8, 16, 24, 31, 32, 33, 53, 62} {
		l = append(l, 1<<bit-1, 1<<bit, 1<<bit+1)
	}
	l = append(l, math.MaxInt-1, math.MaxInt)
	for _, n := range slices.Clone(l) {
		l = append(l, -n)
	}
	return append(l, math.MinInt)
}

// words are all strings over an alphabet with at most so many letters.
func words(alphabet string, most int) []string {
	all := []string{""}
	last := all
	for range most {
		var next []string
		for _, w := range last {
			for i := range len(alphabet) {
				next = append(next, w+alphabet[i:i+1])
			}
		}
		all = append(all, next...)
		last = next
	}
	return all
}

func TestNu1Big(t *testing.T) {
	for _, c := range []struct {
		n    int
		want string
	}{
		{0, "\x00\x00\x00\x00"},
		{1, "\x00\x00\x00\x01"},
		{0x01020304, "\x01\x02\x03\x04"},
		{0xd00dfeed, "\xd0\x0d\xfe\xed"},
		{1 << 31, "\x80\x00\x00\x00"},
		{api.Max32, "\xff\xff\xff\xff"},
		{api.Max32 + 1, "\x00\x00\x00\x00"},
		{0x7a01020304, "\x01\x02\x03\x04"},
		{api.MaxInt, "\xff\xff\xff\xff"},
		{-1, "\xff\xff\xff\xff"},
		{-2, "\xff\xff\xff\xfe"},
		{math.MinInt, "\x00\x00\x00\x00"},
		{math.MinInt + 5, "\x00\x00\x00\x05"},
	} {
		if got := Big(c.n); got != c.want {
			t.Errorf("Big(%d) is %q, not %q", c.n, got, c.want)
		}
	}
}

func TestNu1FromBig(t *testing.T) {
	for _, c := range []struct {
		s    string
		want int
		ok   bool
	}{
		{"", 0, false},
		{"\x01", 0, false},
		{"\x01\x02", 0, false},
		{"\x01\x02\x03", 0, false},
		{"\x01\x02\x03\x04", 0x01020304, true},
		{"\x01\x02\x03\x04\x05", 0x01020304, true},
		{"\xff\xff\xff\xff\xff\xff\xff\xff", api.Max32, true},
		{"\x80\x00\x00\x00", 1 << 31, true},
		{"\x00\x00\x00\x00", 0, true},
	} {
		if got, ok := FromBig(c.s); got != c.want || ok != c.ok {
			t.Errorf("FromBig(%q) is %d, %v", c.s, got, ok)
		}
	}
}

func TestNu1Bigs(t *testing.T) {
	for _, c := range []struct {
		l    []int
		want string
	}{
		{nil, ""},
		{[]int{}, ""},
		{[]int{7}, "\x00\x00\x00\x07"},
		{[]int{1, 2, 3}, "\x00\x00\x00\x01\x00\x00\x00\x02\x00\x00\x00\x03"},
		{[]int{-1, 1 << 32, 5}, "\xff\xff\xff\xff\x00\x00\x00\x00\x00\x00\x00\x05"},
	} {
		if got := Bigs(c.l...); got != c.want {
			t.Errorf("Bigs(%v) is %q", c.l, got)
		}
	}
}

func TestNu1FromBigs(t *testing.T) {
	for _, c := range []struct {
		s    string
		want []int
	}{
		{"", nil},
		{"\x00\x00\x00\x07", []int{7}},
		{"\x00\x00\x00\x01\xff\xff\xff\xff\x80\x00\x00\x00", []int{1, api.Max32, 1 << 31}},
	} {
		if got, ok := FromBigs(c.s); !ok || !slices.Equal(got, c.want) {
			t.Errorf("FromBigs(%q) is %v, %v", c.s, got, ok)
		}
	}
	for n := range 70 {
		got, ok := FromBigs(strings.Repeat("\x01", n))
		if ok != (n%4 == 0) {
			t.Errorf("of %d bytes: %v", n, ok)
		}
		if !ok && len(got) != 0 || ok && len(got) != n/4 {
			t.Errorf("of %d bytes: %v", n, got)
		}
	}
}

func TestNu2Hex(t *testing.T) {
	for _, c := range []struct{ s, want string }{
		{"", ""},
		{"\x00", "00"},
		{"\x0f\xf0", "0ff0"},
		{"\xd0\x0d\xfe\xed", "d00dfeed"},
		{"az", "617a"},
		{"\u00e4", "c3a4"},
	} {
		if got := Hex(c.s); got != c.want {
			t.Errorf("Hex(%q) is %q", c.s, got)
		}
	}
	for b := range 256 {
		if got, want := Hex(string([]byte{byte(b)})), fmt.Sprintf("%02x", b); got != want {
			t.Errorf("Hex of byte %d is %q", b, got)
		}
	}
}

func TestNu2FromHex(t *testing.T) {
	for _, c := range []struct{ s, want string }{
		{"", ""},
		{"00", "\x00"},
		{"0ff0", "\x0f\xf0"},
		{"d00dfeed", "\xd0\x0d\xfe\xed"},
		{"0123456789abcdef", "\x01\x23\x45\x67\x89\xab\xcd\xef"},
	} {
		if got, ok := FromHex(c.s); !ok || got != c.want {
			t.Errorf("FromHex(%q) is %q, %v", c.s, got, ok)
		}
	}
	for _, s := range []string{"0", "000", "0F", "F0", "AB", "0g", "g0", "0x", "0x12", " 00", "00 ", "00 00", "-1", "+1", "0/", "0:", "0`", "00000g", "\x00\x00", "\u00e4", "00\u00e4", "\u0661\u0662"} {
		if got, ok := FromHex(s); ok || got != "" {
			t.Errorf("FromHex(%q) is %q, %v", s, got, ok)
		}
	}
}

func TestNu2Dec(t *testing.T) {
	for _, c := range []struct {
		n    int
		want string
	}{
		{0, "0"},
		{7, "7"},
		{10, "10"},
		{-1, "-1"},
		{-100, "-100"},
		{api.Max32, "4294967295"},
		{api.MaxInt, "9223372036854775807"},
		{math.MinInt, "-9223372036854775808"},
	} {
		if got := Dec(c.n); got != c.want {
			t.Errorf("Dec(%d) is %q", c.n, got)
		}
		if got, ok := FromDec(c.want); !ok || got != c.n {
			t.Errorf("FromDec(%q) is %d, %v", c.want, got, ok)
		}
	}
}

func TestNu2FromDecRefuses(t *testing.T) {
	for _, s := range []string{
		"", "-", "+", "--1", "-0", "00", "01", "-01", "+0", "+1", "1 ", " 1", "1\n", "1\x00", "1_000", "1.0", "1e3", "0x1", "0b1", "0o7", "ff", "a",
		"9223372036854775808", "-9223372036854775809", "18446744073709551616", "09223372036854775807",
		"99999999999999999999999999999999", strings.Repeat("9", 5000), strings.Repeat("0", 5000),
		"\u0661", "\u22121", "\uff11",
	} {
		if got, ok := FromDec(s); ok || got != 0 {
			t.Errorf("FromDec(%q) is %d, %v", s, got, ok)
		}
	}
}

func TestNu2Up(t *testing.T) {
	const edge = 1 << 53
	for n, want := range map[int]int{
		0: 0, 1: 4, 2: 4, 3: 4, 4: 4, 5: 8, 8: 8, 9: 12,
		-1: -1, -2: -2, -3: -3, -4: -4, -5: -5, math.MinInt: math.MinInt, math.MinInt + 1: math.MinInt + 1,
		edge - 4: edge - 4, edge - 3: edge, edge - 1: edge, edge: edge,
		edge + 1: edge + 1, edge + 2: edge + 2, edge + 3: edge + 3, edge + 4: edge + 4, edge + 5: edge + 5,
		1<<60 + 1: 1<<60 + 1, api.MaxInt - 1: api.MaxInt - 1, api.MaxInt: api.MaxInt,
	} {
		if got := Up(n); got != want {
			t.Errorf("Up(%d) is %d, not %d", n, got, want)
		}
	}
	for n := range 5000 {
		if got := Up(n); got < n || got%4 != 0 || got-n > 3 {
			t.Errorf("Up(%d) is %d", n, got)
		}
	}
}

func TestNu3WrittenIsReadBack(t *testing.T) {
	for _, n := range numbers() {
		low := int(uint32(n))
		if got, ok := FromBig(Big(n)); !ok || got != low {
			t.Errorf("%d is read back from its four bytes as %d, %v", n, got, ok)
		}
		if got, ok := FromDec(Dec(n)); !ok || got != n {
			t.Errorf("%d is read back from its digits as %d, %v", n, got, ok)
		}
	}
	var l []int
	for _, n := range numbers() {
		l = append(l, int(uint32(n)))
		if got, ok := FromBigs(Bigs(l...)); !ok || !slices.Equal(got, l) {
			t.Errorf("%v is read back as %v, %v", l, got, ok)
		}
	}
	var b []byte
	for i := range 1024 {
		if got, ok := FromHex(Hex(string(b))); !ok || got != string(b) {
			t.Errorf("%q is read back as %q, %v", b, got, ok)
		}
		b = append(b, byte(i*37+i/256))
	}
}

func TestNu3NothingElseIsADecimal(t *testing.T) {
	written := map[string]int{}
	for n := -99999; n <= 99999; n++ {
		written[fmt.Sprint(n)] = n
	}
	for _, s := range words("-+0129 _.xe", 5) {
		want, right := written[s]
		if got, ok := FromDec(s); ok != right || got != want {
			t.Errorf("FromDec(%q) is %d, %v", s, got, ok)
		}
	}
}

func TestNu3NothingElseIsHexadecimal(t *testing.T) {
	written := map[string]byte{}
	for b := range 256 {
		written[fmt.Sprintf("%02x", b)] = byte(b)
	}
	for pair := range 1 << 16 {
		s := string([]byte{byte(pair >> 8), byte(pair)})
		b, right := written[s]
		want := ""
		if right {
			want = string([]byte{b})
		}
		if got, ok := FromHex(s); ok != right || got != want {
			t.Errorf("FromHex(%q) is %q, %v", s, got, ok)
		}
		if got, ok := FromHex("7f" + s); ok != right || ok && got != "\x7f"+want || !ok && got != "" {
			t.Errorf("FromHex(%q) is %q, %v", "7f"+s, got, ok)
		}
	}
}

func TestNu3OtherBytesAreNoNumbers(t *testing.T) {
	for _, s := range words("\x00\x01\xff", 6) {
		l, ok := FromBigs(s)
		if ok && Bigs(l...) != s || ok != (len(s)%4 == 0) {
			t.Errorf("FromBigs(%q) is %v, %v", s, l, ok)
		}
		n, ok := FromBig(s)
		if ok && Big(n) != s[:4] || ok != (len(s) >= 4) || !ok && n != 0 {
			t.Errorf("FromBig(%q) is %d, %v", s, n, ok)
		}
	}
}

func TestR3ArgumentsStayAsTheyAre(t *testing.T) {
	all := []int{1, 1 << 40, -3, 4, 5}
	before := slices.Clone(all)
	if got := Bigs(all[:3]...); len(got) != 12 {
		t.Errorf("%q", got)
	}
	if !slices.Equal(all, before) {
		t.Errorf("the list became %v", all)
	}
}

func TestR4AnswersAreNewAndAlwaysTheSame(t *testing.T) {
	s := Bigs(1, 2, 3)
	first, _ := FromBigs(s)
	first[0] = 99
	if second, ok := FromBigs(s); !ok || !slices.Equal(second, []int{1, 2, 3}) {
		t.Errorf("%v, %v", second, ok)
	}
}
