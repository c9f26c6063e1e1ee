package value

import (
	"math"
	"math/rand/v2"
	"slices"
	"strings"
	"testing"

	"postilion/api"
	"postilion/num"
)

// words are all strings over an alphabet with at most so many letters.
func words(alphabet string, most int) []string {
	all := []string{""}
	last := all
	for range most {
		var next []string
		for _, w := range last {
			for i := range len(alphabet) {
				next = append(next, w+alphabet[i:i+1])
			}
		}
		all = append(all, next...)
		last = next
	}
	return all
}

// slowTexts are the strings of a value, read byte by byte.
func slowTexts(v string) ([]string, bool) {
	var l []string
	text := ""
	for i := range len(v) {
		if v[i] != 0 {
			text += v[i : i+1]
			continue
		}
		l = append(l, text)
		text = ""
	}
	if len(v) == 0 || v[len(v)-1] != 0 {
		return nil, false
	}
	return l, true
}

// slowNumbers are the numbers of a value, read byte by byte.
func slowNumbers(v string) ([]int, bool) {
	if len(v) == 0 || len(v)%4 != 0 {
		return nil, false
	}
	l := make([]int, len(v)/4)
	for i := range len(v) {
		l[i/4] = l[i/4]*256 + int(v[i])
	}
	return l, true
}

// check holds what the four readers say of a value against the slow ones.
func check(t *testing.T, v string) {
	t.Helper()
	texts, are := slowTexts(v)
	if l, ok := AsTexts(v); !slices.Equal(l, texts) || ok != are || (!ok && l != nil) {
		t.Errorf("AsTexts(%q) is %q, %v, not %q, %v", v, l, ok, texts, are)
	}
	text, is := "", len(texts) == 1
	if is {
		text = texts[0]
	}
	if s, ok := AsText(v); s != text || ok != is {
		t.Errorf("AsText(%q) is %q, %v, not %q, %v", v, s, ok, text, is)
	}
	numbers, are := slowNumbers(v)
	if l, ok := AsNumbers(v); !slices.Equal(l, numbers) || ok != are || (!ok && l != nil) {
		t.Errorf("AsNumbers(%q) is %d, %v, not %d, %v", v, l, ok, numbers, are)
	}
	number, is := 0, len(numbers) == 1
	if is {
		number = numbers[0]
	}
	if n, ok := AsNumber(v); n != number || ok != is {
		t.Errorf("AsNumber(%q) is %d, %v, not %d, %v", v, n, ok, number, is)
	}
}

func TestExample(t *testing.T) {
	if v := Texts("a", "b"); v != "\x61\x00\x62\x00" {
		t.Errorf("%q", v)
	}
}

func TestVl1Numbers(t *testing.T) {
	for _, c := range []struct {
		l    []int
		want string
	}{
		{nil, ""},
		{[]int{}, ""},
		{[]int{0}, "\x00\x00\x00\x00"},
		{[]int{0x01020304}, "\x01\x02\x03\x04"},
		{[]int{1, 2, 3}, "\x00\x00\x00\x01\x00\x00\x00\x02\x00\x00\x00\x03"},
		{[]int{api.Max32, 1 << 31}, "\xff\xff\xff\xff\x80\x00\x00\x00"},
		// of a number that is not of 32 bits, the lowest 32
		{[]int{-1, 1 << 32, 0x7a01020304}, "\xff\xff\xff\xff\x00\x00\x00\x00\x01\x02\x03\x04"},
		{[]int{api.MaxInt, math.MinInt}, "\xff\xff\xff\xff\x00\x00\x00\x00"},
	} {
		if v := Numbers(c.l...); v != c.want || v != num.Bigs(c.l...) {
			t.Errorf("Numbers(%d) is %q, not %q", c.l, v, c.want)
		}
	}
}

func TestVl1Texts(t *testing.T) {
	for _, c := range []struct {
		l    []string
		want string
	}{
		{nil, ""},
		{[]string{}, ""},
		{[]string{""}, "\x00"},
		{[]string{"", "", ""}, "\x00\x00\x00"},
		{[]string{"okay"}, "okay\x00"},
		{[]string{"acme,one", "acme,all"}, "acme,one\x00acme,all\x00"},
		{[]string{"b", "", "a", "b"}, "b\x00\x00a\x00b\x00"},
		{[]string{"ä\xff\n ", "\x01"}, "ä\xff\n \x00\x01\x00"},
		// up to the first byte 0
		{[]string{"\x00"}, "\x00"},
		{[]string{"a\x00"}, "a\x00"},
		{[]string{"\x00a"}, "\x00"},
		{[]string{"a\x00b\x00c", "d\x00\x00", "e"}, "a\x00d\x00e\x00"},
		{[]string{strings.Repeat("x", 1<<16)}, strings.Repeat("x", 1<<16) + "\x00"},
	} {
		if v := Texts(c.l...); v != c.want {
			t.Errorf("Texts(%.80q) is %.80q, not %.80q", c.l, v, c.want)
		}
	}
}

func TestVl1AsNumbers(t *testing.T) {
	for _, c := range []struct {
		v    string
		want []int
	}{
		{"\x00\x00\x00\x00", []int{0}},
		{"\x01\x02\x03\x04\xff\xff\xff\xff\x80\x00\x00\x00", []int{0x01020304, api.Max32, 1 << 31}},
		{"one\x00two\x00", []int{0x6f6e6500, 0x74776f00}},
	} {
		l, ok := AsNumbers(c.v)
		if !ok || !slices.Equal(l, c.want) {
			t.Errorf("AsNumbers(%q) is %d, %v", c.v, l, ok)
		}
	}
	for n := range 70 {
		v := strings.Repeat("\x01", n)
		l, ok := AsNumbers(v)
		if ok != (n > 0 && n%4 == 0) || (!ok && l != nil) || (ok && len(l) != n/4) {
			t.Errorf("AsNumbers of %d bytes is %d, %v", n, l, ok)
		}
	}
}

func TestVl1AsNumber(t *testing.T) {
	for v, want := range map[string]int{
		"\x00\x00\x00\x00": 0, "\x00\x00\x00\x01": 1, "\x01\x02\x03\x04": 0x01020304, "\xff\xff\xff\xff": api.Max32, "abc\x00": 0x61626300,
	} {
		if n, ok := AsNumber(v); n != want || !ok {
			t.Errorf("AsNumber(%q) is %d, %v", v, n, ok)
		}
	}
	for n := range 70 {
		v := strings.Repeat("\x01", n)
		if k, ok := AsNumber(v); ok != (n == 4) || (!ok && k != 0) {
			t.Errorf("AsNumber of %d bytes is %d, %v", n, k, ok)
		}
	}
}

func TestVl1AsTexts(t *testing.T) {
	for _, c := range []struct {
		v    string
		want []string
	}{
		{"\x00", []string{""}},
		{"\x00\x00", []string{"", ""}},
		{"okay\x00", []string{"okay"}},
		{"a\x00\x00b\x00", []string{"a", "", "b"}},
		{"\x00a\x00", []string{"", "a"}},
		{"ä\xff\n \x00\x01\x00", []string{"ä\xff\n ", "\x01"}},
	} {
		if l, ok := AsTexts(c.v); !ok || !slices.Equal(l, c.want) {
			t.Errorf("AsTexts(%q) is %q, %v", c.v, l, ok)
		}
	}
	for _, v := range []string{"", "a", "a\x00b", "\x00b", "a\x00\x00\x01", "\x00\x00\x00\x01", "0"} {
		if l, ok := AsTexts(v); ok || l != nil {
			t.Errorf("AsTexts(%q) is %q, %v", v, l, ok)
		}
	}
}

func TestVl1AsText(t *testing.T) {
	for v, want := range map[string]string{"\x00": "", "okay\x00": "okay", "\xff\x01\x00": "\xff\x01", "ä\x00": "ä"} {
		if s, ok := AsText(v); s != want || !ok {
			t.Errorf("AsText(%q) is %q, %v", v, s, ok)
		}
	}
	for _, v := range []string{"", "a", "okay", "a\x00b", "\x00b", "\x00\x00", "a\x00\x00", "\x00a\x00", "a\x00b\x00"} {
		if s, ok := AsText(v); ok || s != "" {
			t.Errorf("AsText(%q) is %q, %v", v, s, ok)
		}
	}
}

// All short values, and long ones of arbitrary bytes, are read as a plain reading of the chapter reads them.
func TestVl1AllShort(t *testing.T) {
	for _, v := range words("\x00\x01a", 8) {
		check(t, v)
	}
	for b := range 256 {
		letter := string([]byte{byte(b)})
		for n := range 9 {
			check(t, strings.Repeat(letter, n))
			check(t, strings.Repeat(letter, n)+"\x00")
		}
	}
	r := rand.New(rand.NewPCG(13, 1))
	for range 3000 {
		v := make([]byte, r.IntN(200))
		for k := range v {
			v[k] = byte(r.IntN(3) * r.IntN(256))
		}
		check(t, string(v))
	}
}

// Numbers of 32 bits are read back unchanged; of no number at all there is no value.
func TestVl2Numbers(t *testing.T) {
	r := rand.New(rand.NewPCG(13, 2))
	for n := range 200 {
		l := make([]int, n)
		for k := range l {
			l[k] = int(r.Uint32() >> r.IntN(33))
		}
		kept := slices.Clone(l)
		v := Numbers(l...)
		back, ok := AsNumbers(v)
		if ok != (n > 0) || !slices.Equal(back, kept) || !slices.Equal(l, kept) {
			t.Fatalf("%d is read back as %d, %v", kept, back, ok)
		}
		if one, ok := AsNumber(v); ok != (n == 1) || (ok && one != kept[0]) {
			t.Fatalf("%d is read back as %d, %v", kept, one, ok)
		}
		if Numbers(back...) != v {
			t.Fatalf("%d is written as another value", back)
		}
	}
	for _, n := range []int{0, 1, 255, 256, 1<<31 - 1, 1 << 31, api.Max32 - 1, api.Max32} {
		if back, ok := AsNumber(Numbers(n)); back != n || !ok {
			t.Errorf("%d is read back as %d, %v", n, back, ok)
		}
	}
}

// Strings without a byte 0 are read back unchanged; of no string at all there is no value.
func TestVl2Texts(t *testing.T) {
	r := rand.New(rand.NewPCG(13, 3))
	pool := []string{"", "", "a", "okay", "ä", "\xff\xfe", "\x01\x02\x03\x04", strings.Repeat("y", 300)}
	for k := range 2000 {
		l := make([]string, k%8)
		for at := range l {
			l[at] = pool[r.IntN(len(pool))]
		}
		kept := slices.Clone(l)
		v := Texts(l...)
		back, ok := AsTexts(v)
		if ok != (len(kept) > 0) || !slices.Equal(back, kept) || !slices.Equal(l, kept) {
			t.Fatalf("%q is read back as %q, %v", kept, back, ok)
		}
		if one, ok := AsText(v); ok != (len(kept) == 1) || (ok && one != kept[0]) {
			t.Fatalf("%q is read back as %q, %v", kept, one, ok)
		}
		if Texts(back...) != v {
			t.Fatalf("%q is written as another value", back)
		}
	}
}

// A value of strings, and one of numbers, is written again as it was.
func TestVl2Values(t *testing.T) {
	for _, v := range words("\x00\x01a", 8) {
		if l, ok := AsTexts(v); ok && Texts(l...) != v {
			t.Fatalf("%q is written as %q", v, Texts(l...))
		}
		if l, ok := AsNumbers(v); ok && Numbers(l...) != v {
			t.Fatalf("%q is written as %q", v, Numbers(l...))
		}
	}
}

// What is behind a list that is passed stays as it is, and what is returned belongs to the caller.
func TestListsStayApart(t *testing.T) {
	numbers := []int{1, 1 << 40, -3, 4}
	Numbers(numbers[:2]...)
	texts := []string{"a\x00b", "c", "d", "e"}
	Texts(texts[:2]...)
	if !slices.Equal(numbers, []int{1, 1 << 40, -3, 4}) || !slices.Equal(texts, []string{"a\x00b", "c", "d", "e"}) {
		t.Errorf("%d %q", numbers, texts)
	}
	first, _ := AsNumbers("\x00\x00\x00\x01\x00\x00\x00\x02")
	first[0] = 9
	if second, _ := AsNumbers("\x00\x00\x00\x01\x00\x00\x00\x02"); !slices.Equal(second, []int{1, 2}) {
		t.Errorf("%d", second)
	}
	some, _ := AsTexts("a\x00b\x00")
	some[0] = "x"
	if others, _ := AsTexts("a\x00b\x00"); !slices.Equal(others, []string{"a", "b"}) {
		t.Errorf("%q", others)
	}
}

// One large value is read whole.
func TestLarge(t *testing.T) {
	v := strings.Repeat("\x00", 1<<20)
	if l, ok := AsTexts(v); !ok || len(l) != 1<<20 {
		t.Errorf("%d texts, %v", len(l), ok)
	}
	if l, ok := AsNumbers(v); !ok || len(l) != 1<<18 {
		t.Errorf("%d numbers, %v", len(l), ok)
	}
}
