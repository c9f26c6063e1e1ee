package kv

import (
	"bytes"
	"math/rand/v2"
	"regexp"
	"slices"
	"sort"
	"strconv"
	"strings"
	"testing"

	"postilion/api"
)

// The bytes of keys and values, one by one as the chapter says them.
const (
	inKeys   = "abcdefghijklmnopqrstuvwxyz0123456789."
	inValues = " !\"#$%&'()*+,-./0123456789:;<=>?@ABCDEFGHIJKLMNOPQRSTUVWXYZ[\\]^_`abcdefghijklmnopqrstuvwxyz{|}~"
)

// linePattern is a line of a text: its key, and its value.
var linePattern = regexp.MustCompile(`\A([a-z0-9.]{1,31})=([\x20-\x7e]{0,120})\n`)

// pairs are those of texts: a key, its value, and so on.
func pairs(l ...string) []api.Pair {
	var made []api.Pair
	for k := 0; k < len(l); k += 2 {
		made = append(made, api.Pair{Key: l[k], Value: l[k+1]})
	}
	return made
}

// of are so many bytes of a kind.
func of(c string, n int) string { return strings.Repeat(c, n) }

// slowCheck is Check, told byte by byte.
func slowCheck(p api.Pair) api.Errno {
	if len(p.Key) == 0 || len(p.Key) >= 32 || len(p.Value) >= 121 {
		return api.ErrArg
	}
	for k := range len(p.Key) {
		if !bytes.Contains([]byte(inKeys), []byte{p.Key[k]}) {
			return api.ErrArg
		}
	}
	for k := range len(p.Value) {
		if !bytes.Contains([]byte(inValues), []byte{p.Value[k]}) {
			return api.ErrArg
		}
	}
	return api.OK
}

// slowRight tells whether pairs are right, with each key held against all that are ahead of it.
func slowRight(l []api.Pair) bool {
	for k, p := range l {
		if slowCheck(p) != api.OK {
			return false
		}
		for _, other := range l[:k] {
			if bytes.Compare([]byte(other.Key), []byte(p.Key)) >= 0 {
				return false
			}
		}
	}
	return true
}

// slowText is the text of pairs, whatever they are.
func slowText(l []api.Pair) string {
	var text []byte
	for _, p := range l {
		text = append(text, p.Key...)
		text = append(text, 61)
		text = append(text, p.Value...)
		text = append(text, 10)
	}
	return string(text)
}

// slowPrint is Print, as the chapter says it.
func slowPrint(l []api.Pair) (string, api.Errno) {
	switch {
	case !slowRight(l):
		return "", api.ErrForm
	case len(slowText(l)) > 496:
		return "", api.ErrBig
	}
	return slowText(l), api.OK
}

// slowParse is Parse, told by the pattern of a line.
func slowParse(s string) ([]api.Pair, api.Errno) {
	if len(s) > 496 {
		return nil, api.ErrBig
	}
	var l []api.Pair
	for s != "" {
		m := linePattern.FindStringSubmatch(s)
		if m == nil || len(l) > 0 && l[len(l)-1].Key >= m[1] {
			return nil, api.ErrForm
		}
		l = append(l, api.Pair{Key: m[1], Value: m[2]})
		s = s[len(m[0]):]
	}
	return l, api.OK
}

// slowSet is Set, told pair by pair.
func slowSet(l []api.Pair, set ...api.Pair) ([]api.Pair, api.Errno) {
	if !slowRight(l) {
		return nil, api.ErrForm
	}
	values := map[string]string{}
	for _, p := range l {
		values[p.Key] = p.Value
	}
	for _, p := range set {
		if e := slowCheck(p); e != api.OK {
			return nil, e
		}
		values[p.Key] = p.Value
	}
	var keys []string
	for key := range values {
		keys = append(keys, key)
	}
	sort.Strings(keys)
	var made []api.Pair
	for _, key := range keys {
		made = append(made, api.Pair{Key: key, Value: values[key]})
	}
	return made, api.OK
}

// slowDrop is Drop, told key by key.
func slowDrop(l []api.Pair, keys ...string) []api.Pair {
	for _, key := range keys {
		var left []api.Pair
		for _, p := range l {
			if p.Key != key {
				left = append(left, p)
			}
		}
		l = left
	}
	return l
}

// answers fails unless pairs and an error are those that are wanted.
func answers(t *testing.T, what string, l []api.Pair, e api.Errno, want []api.Pair, wantErr api.Errno) {
	t.Helper()
	if !slices.Equal(l, want) || e != wantErr {
		t.Fatalf("%s is %.200q, %d, not %.200q, %d", what, l, e, want, wantErr)
	}
}

// checks fails unless Check, and the plain telling, return an error.
func checks(t *testing.T, key, value string, want api.Errno) {
	t.Helper()
	p := api.Pair{Key: key, Value: value}
	if e := Check(p); e != want {
		t.Errorf("Check of %q, %q is %d, not %d", key, value, e, want)
	}
	if e := slowCheck(p); e != want {
		t.Errorf("the plain telling of %q, %q is %d, not %d", key, value, e, want)
	}
}

// prints fails unless Print, and the plain telling, return a text or an error.
func prints(t *testing.T, l []api.Pair, want string, wantErr api.Errno) {
	t.Helper()
	if s, e := Print(l); s != want || e != wantErr {
		t.Errorf("Print of %.200q is %q, %d, not %q, %d", l, s, e, want, wantErr)
	}
	if s, e := slowPrint(l); s != want || e != wantErr {
		t.Errorf("the plain telling of %.200q is %q, %d, not %q, %d", l, s, e, want, wantErr)
	}
}

// parses fails unless Parse, and the plain telling, return pairs or an error.
func parses(t *testing.T, s string, want []api.Pair, wantErr api.Errno) {
	t.Helper()
	l, e := Parse(s)
	answers(t, "Parse of "+strconv.Quote(s), l, e, want, wantErr)
	l, e = slowParse(s)
	answers(t, "the plain telling of "+strconv.Quote(s), l, e, want, wantErr)
}

// sets fails unless Set, and the plain telling, return pairs or an error.
func sets(t *testing.T, l, set, want []api.Pair, wantErr api.Errno) {
	t.Helper()
	made, e := Set(l, set...)
	answers(t, "Set", made, e, want, wantErr)
	made, e = slowSet(l, set...)
	answers(t, "the plain telling of Set", made, e, want, wantErr)
}

// drops fails unless Drop, and the plain telling, return pairs.
func drops(t *testing.T, l []api.Pair, keys []string, want []api.Pair) {
	t.Helper()
	answers(t, "Drop", Drop(l, keys...), api.OK, want, api.OK)
	answers(t, "the plain telling of Drop", slowDrop(l, keys...), api.OK, want, api.OK)
}

// wrong are pairs that Check refuses.
func wrong() []api.Pair {
	return pairs("", "", "", "1", "A", "1", "a-b", "1", "a=b", "1", "a b", "1", " a", "1", "a ", "1", "a_b", "1", "a\n", "1", "\xc3\xa4", "1", "a\x00", "1", "a\xff", "1", of("k", 32), "",
		"a", "\n", "a", "1\n", "a", "\t", "a", "\x1f", "a", "\x7f", "a", "\x80", "a", "\xc3\xa4", "a", "1\x00", "a", "\xff", "a", of("v", 121))
}

// wrongLists are pairs that are not right, with and without pairs that are refused.
func wrongLists() [][]api.Pair {
	lists := [][]api.Pair{
		pairs("b", "", "a", ""), pairs("a", "1", "a", "1"), pairs("a", "1", "a", "2"), pairs("a", "", "b", "", "b", ""), pairs("a", "", "c", "", "b", ""),
		pairs("a", "", "b", "", "a", ""), pairs("ab", "", "a", ""), pairs("a", "", "a.", "", "a", ""), pairs("a", "", "0", ""), pairs("0", "", ".", ""),
	}
	for _, p := range wrong() {
		lists = append(lists, []api.Pair{p}, []api.Pair{p, {Key: "z"}}, append(pairs("0", ""), p), append(pairs("0", "", "1", ""), p, api.Pair{Key: "z"}))
	}
	return lists
}

func TestExample(t *testing.T) {
	s, e := Print(pairs("a", "1"))
	if s != "a=1\n" || e != api.OK || strings.Count(s, "\n") != 1 {
		t.Errorf("%q, %d", s, e)
	}
}

func TestKv1Check(t *testing.T) {
	for _, p := range pairs("a", "", "a", "1", "z", " ", "0", "~", "9", "=", ".", "a=b", "..", "\\", "slot.a", "1 15 7 0 2 1", "roll", "0", "bootargs", "console=ttyS0,115200 quiet", "0.1", "x", "a..z", "{\"}") {
		checks(t, p.Key, p.Value, api.OK)
	}
	for _, p := range wrong() {
		checks(t, p.Key, p.Value, api.ErrArg)
	}
	checks(t, "A", "\n", api.ErrArg)
}

func TestKv1CheckOfAllLengths(t *testing.T) {
	for n := range 200 {
		for _, many := range []int{0, 1, 31, 32, 120, 121, 199} {
			ofKey, ofBoth := api.ErrArg, api.ErrArg
			if n >= 1 && n <= 31 {
				ofKey = api.OK
			}
			if many >= 1 && many <= 31 && n <= 120 {
				ofBoth = api.OK
			}
			checks(t, of("k", n), "", ofKey)
			checks(t, of("k", many), of("v", n), ofBoth)
		}
	}
	// It is bytes that are counted, and refused: letters of more than one are none of a key or a value.
	for _, n := range []int{1, 15, 16, 31} {
		checks(t, of("\u00e9", n), "", api.ErrArg)
		checks(t, "k", of("\u00e9", n), api.ErrArg)
		checks(t, "k", of("\U0001f600", n), api.ErrArg)
	}
}

// Each byte is at each place of keys and values of some lengths.
func TestKv1CheckOfAllBytes(t *testing.T) {
	for c := range 256 {
		one := string([]byte{byte(c)})
		ofKey, ofValue := api.ErrArg, api.ErrArg
		if c >= 'a' && c <= 'z' || c >= '0' && c <= '9' || c == '.' {
			ofKey = api.OK
		}
		if c >= 32 && c <= 126 {
			ofValue = api.OK
		}
		for _, n := range []int{1, 2, 3, 31} {
			for at := range n {
				checks(t, of("k", at)+one+of("k", n-at-1), "v", ofKey)
			}
		}
		for _, n := range []int{1, 2, 3, 31, 120} {
			for at := range n {
				checks(t, "k", of("v", at)+one+of("v", n-at-1), ofValue)
			}
		}
	}
}

// Letters of all sizes, among them those that stand for bytes that are no letter.
func TestKv1CheckOfLetters(t *testing.T) {
	for letter := rune(0); letter <= 0x10ffff; letter++ {
		if letter > 0x3000 && letter%251 != 0 && letter != 0xfffd && letter != 0xffff {
			continue
		}
		text := string(letter)
		ofKey, ofValue := api.ErrArg, api.ErrArg
		if strings.Contains(inKeys, text) {
			ofKey = api.OK
		}
		if strings.Contains(inValues, text) {
			ofValue = api.OK
		}
		checks(t, text, "", ofKey)
		checks(t, "k", text, ofValue)
	}
	for _, text := range []string{"\xc3", "\xa4", "\xe2\x82", "\xed\xa0\x80", "\xf0\x9f\x98", "\xc1\xa1", "\xe0\x81\xa1", "\xf8"} {
		checks(t, text, "", api.ErrArg)
		checks(t, "k", text, api.ErrArg)
		checks(t, "k"+text+"k", "v", api.ErrArg)
		checks(t, "k", "v"+text+"v", api.ErrArg)
	}
}

func TestKv1Get(t *testing.T) {
	l := pairs("a", "1", "b", "", "b.c", "x=y", "slot.a", "1 2 3")
	for _, p := range l {
		if v, ok := Get(l, p.Key); v != p.Value || !ok {
			t.Errorf("%q: %q, %v", p.Key, v, ok)
		}
	}
	for _, key := range []string{"", "A", "c", "b.", "b.cc", "slot", "slot.b", "a=1", "1", "a\n", " a"} {
		if v, ok := Get(l, key); v != "" || ok {
			t.Errorf("%q: %q, %v", key, v, ok)
		}
		if v, ok := Get(nil, key); v != "" || ok {
			t.Errorf("%q of none: %q, %v", key, v, ok)
		}
	}
}

// Of a key that is there twice the first value counts, and the pairs need not be right.
func TestKv1GetOfWrongPairs(t *testing.T) {
	l := pairs("z", "1", "a", "2", "a", "3", "", "4", "A=\n", "\xff", "z", "5", "", "6", "m", of("v", 500))
	for key, want := range map[string]string{"z": "1", "a": "2", "": "4", "A=\n": "\xff", "m": of("v", 500)} {
		if v, ok := Get(l, key); v != want || !ok {
			t.Errorf("%q: %q, %v", key, v, ok)
		}
	}
	if v, ok := Get(pairs("a", "", "a", "1"), "a"); v != "" || !ok {
		t.Errorf("%q, %v", v, ok)
	}
}

func TestKv1PrintAndParse(t *testing.T) {
	for _, x := range []struct {
		l []api.Pair
		s string
	}{
		{nil, ""},
		{pairs("a", ""), "a=\n"},
		{pairs("a", "1", "b", "2"), "a=1\nb=2\n"},
		{pairs("a", "=", "b", "=="), "a==\nb===\n"},
		{pairs("a", "b=c", "b", "a=1"), "a=b=c\nb=a=1\n"},
		{pairs("a", " ", "b", "  x  "), "a= \nb=  x  \n"},
		// The order is that of the bytes: a period, digits, letters; and a key is ahead of those that it begins.
		{pairs(".", "", "0", "", "9", "", "a", "", "z", ""), ".=\n0=\n9=\na=\nz=\n"},
		{pairs("a", "", "a.", "", "a.a", "", "a0", "", "aa", "", "b", ""), "a=\na.=\na.a=\na0=\naa=\nb=\n"},
		{pairs("k10", "", "k9", ""), "k10=\nk9=\n"},
		{pairs("roll", "0", "slot.a", "1 15 7 0 2 1", "slot.b", "0 0 0 0 0 0"), "roll=0\nslot.a=1 15 7 0 2 1\nslot.b=0 0 0 0 0 0\n"},
		{pairs("k", "~!\"\\'"), "k=~!\"\\'\n"},
		{pairs(of("k", 31), of("v", 120)), of("k", 31) + "=" + of("v", 120) + "\n"},
	} {
		prints(t, x.l, x.s, api.OK)
		parses(t, x.s, x.l, api.OK)
	}
	prints(t, []api.Pair{}, "", api.OK)
}

func TestKv1PrintOfWrongPairs(t *testing.T) {
	long := pairs("d0", of("v", 120), "d1", of("v", 120), "d2", of("v", 120), "d3", of("v", 120), "d4", of("v", 120))
	for _, l := range wrongLists() {
		prints(t, l, "", api.ErrForm)
		// Pairs that are not right are told ahead of a text that is too big, wherever they are.
		prints(t, slices.Concat(long, l), "", api.ErrForm)
		prints(t, slices.Concat(l, long), "", api.ErrForm)
	}
	prints(t, long, "", api.ErrBig)
	prints(t, append(slices.Clone(long), long[4]), "", api.ErrForm)
	prints(t, append(slices.Clone(long), api.Pair{Key: "d5", Value: "\n"}), "", api.ErrForm)
}

// The last value of a text becomes longer, byte by byte, beyond 496 bytes.
func TestKv1PrintAndParseOfAllLengths(t *testing.T) {
	l := pairs("a", of("v", 120), "b", of("v", 120), "c", of("v", 120), "d", of("v", 115), "e", "")
	for n := range 121 {
		l[4].Value = of("w", n)
		s := slowText(l)
		if len(s) != 490+n {
			t.Fatalf("%d bytes", len(s))
		}
		if n <= 6 {
			prints(t, l, s, api.OK)
			parses(t, s, l, api.OK)
		} else {
			prints(t, l, "", api.ErrBig)
			parses(t, s, nil, api.ErrBig)
		}
	}
	var many []api.Pair
	for k := range 200 {
		many = append(many, api.Pair{Key: "k" + strconv.Itoa(k+100)})
		s := slowText(many)
		if len(s) <= 496 {
			prints(t, many, s, api.OK)
			parses(t, s, many, api.OK)
		} else {
			prints(t, many, "", api.ErrBig)
			parses(t, s, nil, api.ErrBig)
		}
	}
}

func TestKv1ParseOfWrongTexts(t *testing.T) {
	for _, s := range []string{
		"\n", "a", "=", "a=", "a=1", "a\n", "=\n", "=1\n", " \n", "\x00", "\n\n",
		"a=1\n\n", "\na=1\n", "a=1\n\nb=1\n", "a=1\nb=1", "a=1\nb", "a=1\nb\n", "a=1\n=\n", "a=1\n=1\n", "a=1\n ", "a=1\n\x00",
		"b=1\na=1\n", "a=1\na=1\n", "a=1\na=2\n", "a=1\nb=1\na=1\n", "a=1\nb=1\nb=2\n", "a=1\n.=1\n", "k9=\nk10=\n",
		"A=1\n", "a =1\n", " a=1\n", "a-b=1\n", "a_b=1\n", "a:1\n", "#a=1\n", "\xc3\xa4=1\n", "a\xff=1\n",
		"a=\t\n", "a=1\r\n", "a=\x00\n", "a=\x1f\n", "a=\x7f\n", "a=\xc3\xa4\n", "a=\xff\n", "a=1\r\nb=1\r\n", "a=1\rb=1\n",
		of("k", 32) + "=\n", "k=" + of("v", 121) + "\n", of("k", 100), "k=" + of("v", 490), "k=" + of("v", 494),
		of("\n", 496), of("=", 496), of("a=\n", 165), of("x", 496), of("\xff", 496),
	} {
		parses(t, s, nil, api.ErrForm)
	}
	for _, l := range wrongLists() {
		// A key with an equals sign looks like a shorter one.
		if slices.ContainsFunc(l, func(p api.Pair) bool { return strings.Contains(p.Key, "=") }) {
			continue
		}
		parses(t, slowText(l), nil, api.ErrForm)
	}
}

// Whatever a text of more than 496 bytes is, it is too big.
func TestKv1ParseOfBigTexts(t *testing.T) {
	for _, n := range []int{497, 498, 512, 1000, 1 << 20} {
		for _, c := range []string{"x", "\n", "=", "\x00", "\xff", " "} {
			parses(t, of(c, n), nil, api.ErrBig)
		}
	}
	right := "a=" + of("v", 120) + "\nb=" + of("v", 120) + "\nc=" + of("v", 120) + "\nd=" + of("v", 120) + "\n"
	if len(right) != 492 {
		t.Fatalf("%d bytes", len(right))
	}
	parses(t, right+"e=1\n", slices.Concat(pairs("a", of("v", 120), "b", of("v", 120), "c", of("v", 120), "d", of("v", 120), "e", "1")), api.OK)
	parses(t, right+"e=12\n", nil, api.ErrBig)
	parses(t, right+"d=12\n", nil, api.ErrBig)
	parses(t, right+"d=1\n", nil, api.ErrForm)
	parses(t, right+"e=12", nil, api.ErrForm)
}

// texts calls a function with each text of at most so many letters.
func texts(letters string, most int, do func(string)) {
	var grow func(s string)
	grow = func(s string) {
		do(s)
		if len(s) == most {
			return
		}
		for k := range len(letters) {
			grow(s + letters[k:k+1])
		}
	}
	grow("")
}

func TestKv1ParseOfAllShortTexts(t *testing.T) {
	found := map[api.Errno]int{}
	one := func(s string) {
		want, wantErr := slowParse(s)
		l, e := Parse(s)
		answers(t, strconv.Quote(s), l, e, want, wantErr)
		found[e]++
	}
	texts("ab=\n", 8, one)
	texts("a.=\n A\x00", 6, one)
	if found[api.OK] < 100 || found[api.ErrForm] < 1000 {
		t.Errorf("%v", found)
	}
}

// Each byte of a text is another one, is missing, or is there twice.
func TestKv1ParseOfBrokenTexts(t *testing.T) {
	const s = "a=1\nab=x=y\nb=\nslot.a=1 2 3\n"
	parses(t, s, pairs("a", "1", "ab", "x=y", "b", "", "slot.a", "1 2 3"), api.OK)
	for at := range len(s) {
		broken := []string{s[:at] + s[at+1:], s[:at] + s[at:at+1] + s[at:], s[:at], s[at:]}
		for c := range 256 {
			broken = append(broken, s[:at]+string([]byte{byte(c)})+s[at+1:], s[:at]+string([]byte{byte(c)})+s[at:])
		}
		for _, b := range broken {
			want, wantErr := slowParse(b)
			parses(t, b, want, wantErr)
		}
	}
}

func TestKv2Set(t *testing.T) {
	l := pairs("b", "1", "d", "2")
	for _, x := range []struct{ set, want []api.Pair }{
		{nil, l},
		{pairs("a", "x"), pairs("a", "x", "b", "1", "d", "2")},
		{pairs("b", "x"), pairs("b", "x", "d", "2")},
		{pairs("b", ""), pairs("b", "", "d", "2")},
		{pairs("b", "1"), l},
		{pairs("c", "x"), pairs("b", "1", "c", "x", "d", "2")},
		{pairs("d", "x"), pairs("b", "1", "d", "x")},
		{pairs("e", "x"), pairs("b", "1", "d", "2", "e", "x")},
		{pairs(".", "x", "0", "y"), pairs(".", "x", "0", "y", "b", "1", "d", "2")},
		{pairs("b.", "x", "bb", "y", "b0", "z"), pairs("b", "1", "b.", "x", "b0", "z", "bb", "y", "d", "2")},
		{pairs("e", "5", "c", "4", "a", "3", "d", "2", "b", "1"), pairs("a", "3", "b", "1", "c", "4", "d", "2", "e", "5")},
		// Of a key that is set twice the last value is there.
		{pairs("b", "x", "b", "y"), pairs("b", "y", "d", "2")},
		{pairs("a", "x", "a", ""), pairs("a", "", "b", "1", "d", "2")},
		{pairs("c", "1", "b", "1", "c", "2", "b", "2", "c", "3"), pairs("b", "2", "c", "3", "d", "2")},
		{pairs("b", "x", "b", "1"), l},
		{pairs(of("k", 31), of("v", 120)), pairs("b", "1", "d", "2", of("k", 31), of("v", 120))},
	} {
		sets(t, l, x.set, x.want, api.OK)
	}
	sets(t, nil, nil, nil, api.OK)
	sets(t, nil, pairs("b", "1", "a", "2", "b", "3"), pairs("a", "2", "b", "3"), api.OK)
	sets(t, []api.Pair{}, pairs("a", ""), pairs("a", ""), api.OK)
}

func TestKv2SetRefuses(t *testing.T) {
	l := pairs("b", "1", "d", "2")
	for _, p := range wrong() {
		sets(t, l, []api.Pair{p}, nil, api.ErrArg)
		sets(t, nil, []api.Pair{p}, nil, api.ErrArg)
		sets(t, l, []api.Pair{{Key: "a", Value: "1"}, p}, nil, api.ErrArg)
		sets(t, l, []api.Pair{p, {Key: "a", Value: "1"}}, nil, api.ErrArg)
		sets(t, l, []api.Pair{{Key: "b"}, p, {Key: p.Key, Value: "right"}, {Key: "a", Value: p.Value}, {Key: "d"}}, nil, api.ErrArg)
		// A wrong value is refused, although a later one takes its place.
		sets(t, l, []api.Pair{{Key: "b", Value: "\n"}, {Key: "b", Value: "right"}}, nil, api.ErrArg)
	}
	// Pairs that are not right are told ahead of those that are refused, although what is set would make them right.
	for _, m := range wrongLists() {
		sets(t, m, nil, nil, api.ErrForm)
		sets(t, m, pairs("a", "1"), nil, api.ErrForm)
		sets(t, m, pairs("A", "1"), nil, api.ErrForm)
		sets(t, m, wrong(), nil, api.ErrForm)
		sets(t, m, []api.Pair{{Key: m[0].Key, Value: "1"}}, nil, api.ErrForm)
	}
}

// Set refuses no list for its text: only Print tells that it has too many bytes.
func TestKv2SetOfMorePairsThanATextHas(t *testing.T) {
	var l []api.Pair
	for k := range 1000 {
		key := "k" + strconv.Itoa(999-k)
		made, e := Set(l, api.Pair{Key: key, Value: of("v", 120)})
		if e != api.OK || len(made) != k+1 || !slowRight(made[:min(20, len(made))]) {
			t.Fatalf("%d: %d, %d pairs", k, e, len(made))
		}
		l = made
	}
	if _, e := Print(l); e != api.ErrBig {
		t.Error(e)
	}
}

// Very many pairs, in the least suitable order, are set at once, and dropped at once.
func TestKv2OfVeryManyPairs(t *testing.T) {
	const many = 200000
	key := func(k int) string { return strconv.Itoa(1000000 + k) }
	var set []api.Pair
	var even []string
	for k := many - 1; k >= 0; k-- {
		set = append(set, api.Pair{Key: key(k), Value: "1"}, api.Pair{Key: key(k), Value: strconv.Itoa(k)})
		if k%2 == 0 {
			even = append(even, key(k))
		}
	}
	l, e := Set(pairs("0", "x", key(7), "y", "z", "z"), set...)
	if e != api.OK || len(l) != many+2 || !right(l) {
		t.Fatalf("%d, %d pairs", e, len(l))
	}
	if l[0].Value != "x" || l[many+1].Value != "z" {
		t.Errorf("%q, %q", l[0], l[many+1])
	}
	for k := range many {
		if l[k+1] != (api.Pair{Key: key(k), Value: strconv.Itoa(k)}) {
			t.Fatalf("%d: %q", k, l[k+1])
		}
	}
	l = Drop(l, even...)
	if len(l) != many/2+2 {
		t.Fatalf("%d pairs", len(l))
	}
	for k := range many / 2 {
		if l[k+1].Key != key(2*k+1) {
			t.Fatalf("%d: %q", k, l[k+1])
		}
	}
}

func TestKv2Drop(t *testing.T) {
	l := pairs("a", "1", "b", "2", "c", "3", "d", "4")
	for _, x := range []struct {
		keys []string
		want []api.Pair
	}{
		{nil, l},
		{[]string{}, l},
		{[]string{"a"}, pairs("b", "2", "c", "3", "d", "4")},
		{[]string{"d"}, pairs("a", "1", "b", "2", "c", "3")},
		{[]string{"c", "b"}, pairs("a", "1", "d", "4")},
		{[]string{"b", "b", "q", "b"}, pairs("a", "1", "c", "3", "d", "4")},
		{[]string{"q", "", "A", "a ", "a=1", "1", "a\n", "aa", ".", "\xff"}, l},
		{[]string{"d", "c", "b", "a"}, nil},
	} {
		drops(t, l, x.keys, x.want)
	}
	drops(t, nil, nil, nil)
	drops(t, nil, []string{"a", ""}, nil)
	drops(t, []api.Pair{}, []string{"a"}, nil)
}

// Pairs need not be right to be dropped, and all of a key are.
func TestKv2DropOfWrongPairs(t *testing.T) {
	l := pairs("z", "1", "a", "2", "", "3", "z", "\n", "A", "5", "a", "2", "\xff", of("v", 500))
	drops(t, l, nil, l)
	drops(t, l, []string{"z"}, pairs("a", "2", "", "3", "A", "5", "a", "2", "\xff", of("v", 500)))
	drops(t, l, []string{"", "\xff"}, pairs("z", "1", "a", "2", "z", "\n", "A", "5", "a", "2"))
	drops(t, l, []string{"A", "a"}, pairs("z", "1", "", "3", "z", "\n", "\xff", of("v", 500)))
	for _, m := range wrongLists() {
		drops(t, m, nil, m)
		drops(t, m, []string{m[0].Key}, slowDrop(m, m[0].Key))
		drops(t, m, []string{"z", m[len(m)-1].Key}, slowDrop(m, "z", m[len(m)-1].Key))
	}
}

// anyText is a text of at most so many bytes, of some bytes, or of any.
func anyText(r *rand.Rand, from string, most int) string {
	var b []byte
	for range r.IntN(most + 1) {
		if r.IntN(200) == 0 {
			b = append(b, byte(r.IntN(256)))
		} else {
			b = append(b, from[r.IntN(len(from))])
		}
	}
	return string(b)
}

// anyPairs are at most so many pairs of which most have right keys and values, and most lists are right.
func anyPairs(r *rand.Rand, most int) []api.Pair {
	var l []api.Pair
	for range r.IntN(most + 1) {
		p := api.Pair{Key: "k" + anyText(r, "ab0.", 2), Value: anyText(r, inValues, 6)}
		if r.IntN(10) == 0 {
			p = api.Pair{Key: anyText(r, inKeys, 31), Value: anyText(r, inValues, 120)}
		}
		if r.IntN(100) == 0 {
			p = api.Pair{Key: anyText(r, inKeys, 35), Value: anyText(r, inValues, 125)}
		}
		l = append(l, p)
	}
	if r.IntN(8) > 0 {
		slices.SortFunc(l, func(a, b api.Pair) int { return strings.Compare(a.Key, b.Key) })
		l = slices.CompactFunc(l, func(a, b api.Pair) bool { return a.Key == b.Key })
	}
	return l
}

func TestKv2BesideAPlainTelling(t *testing.T) {
	r := rand.New(rand.NewPCG(21, 2))
	found := map[api.Errno]int{}
	for range 100000 {
		l, set := anyPairs(r, 10), anyPairs(r, 5)
		want, wantErr := slowSet(l, set...)
		made, e := Set(l, set...)
		answers(t, "Set", made, e, want, wantErr)
		found[e]++
		var keys []string
		for range r.IntN(4) {
			keys = append(keys, "k"+anyText(r, "ab0.", 2))
		}
		answers(t, "Drop", Drop(l, keys...), api.OK, slowDrop(l, keys...), api.OK)
	}
	for _, e := range []api.Errno{api.OK, api.ErrForm, api.ErrArg} {
		if found[e] < 500 {
			t.Errorf("%d times %d", found[e], e)
		}
	}
}

// What is printed is parsed unchanged, and beside an error there is nothing to parse.
func TestKv3PrintedIsParsed(t *testing.T) {
	r := rand.New(rand.NewPCG(21, 3))
	found := map[api.Errno]int{}
	for range 100000 {
		l := anyPairs(r, 40)
		want, wantErr := slowPrint(l)
		s, e := Print(l)
		if s != want || e != wantErr {
			t.Fatalf("Print of %q is %q, %d, not %q, %d", l, s, e, want, wantErr)
		}
		found[e]++
		if e == api.OK {
			back, e := Parse(s)
			answers(t, "Parse", back, e, l, api.OK)
		}
	}
	for _, e := range []api.Errno{api.OK, api.ErrForm, api.ErrBig} {
		if found[e] < 500 {
			t.Errorf("%d times %d", found[e], e)
		}
	}
}

// What was parsed is printed identically.
func TestKv3ParsedIsPrinted(t *testing.T) {
	r := rand.New(rand.NewPCG(21, 4))
	found := map[api.Errno]int{}
	for range 100000 {
		s := slowText(anyPairs(r, 40))
		if r.IntN(4) == 0 && s != "" {
			at := r.IntN(len(s))
			s = s[:at] + anyText(r, "a=\n", 2) + s[at+r.IntN(2):]
		}
		want, wantErr := slowParse(s)
		l, e := Parse(s)
		answers(t, "Parse", l, e, want, wantErr)
		found[e]++
		if e == api.OK {
			if again, e := Print(l); again != s || e != api.OK {
				t.Fatalf("%q, then %q, %d", s, again, e)
			}
		}
	}
	for _, e := range []api.Errno{api.OK, api.ErrForm, api.ErrBig} {
		if found[e] < 500 {
			t.Errorf("%d times %d", found[e], e)
		}
	}
}

// What was set is there, everything else is unchanged, and the pairs are right.
func TestKv3WhatWasSetIsThere(t *testing.T) {
	r := rand.New(rand.NewPCG(21, 5))
	for range 50000 {
		l, set := anyPairs(r, 10), anyPairs(r, 5)
		made, e := Set(l, set...)
		if e != api.OK {
			continue
		}
		if !slowRight(made) {
			t.Fatalf("%q in %q is %q", set, l, made)
		}
		last := map[string]string{}
		for _, p := range set {
			last[p.Key] = p.Value
		}
		for key, value := range last {
			if v, ok := Get(made, key); v != value || !ok {
				t.Fatalf("%q is %q, %v, not %q", key, v, ok, value)
			}
		}
		var keys []string
		for key := range last {
			keys = append(keys, key)
		}
		answers(t, "everything else", Drop(made, keys...), api.OK, Drop(l, keys...), api.OK)
		again, e := Set(made, set...)
		answers(t, "Set once more", again, e, made, api.OK)
	}
}

// Pairs are set and dropped for a long time, one list after the other, beside a map.
func TestKv3OfManyChanges(t *testing.T) {
	r := rand.New(rand.NewPCG(21, 6))
	var l []api.Pair
	values := map[string]string{}
	for k := range 5000 {
		key := "k" + strconv.Itoa(r.IntN(40))
		if r.IntN(3) > 0 {
			made, e := Set(l, api.Pair{Key: key, Value: strconv.Itoa(k)})
			if e != api.OK {
				t.Fatalf("%d: %d", k, e)
			}
			l, values[key] = made, strconv.Itoa(k)
		} else {
			l = Drop(l, key)
			delete(values, key)
		}
		if len(l) != len(values) || !slowRight(l) {
			t.Fatalf("%d: %q", k, l)
		}
		for key, value := range values {
			if v, ok := Get(l, key); v != value || !ok {
				t.Fatalf("%d: %q is %q, %v", k, key, v, ok)
			}
		}
	}
}

// Neither an argument nor the memory behind it is changed, and an answer is new memory.
func TestR3Arguments(t *testing.T) {
	backing := pairs("b", "1", "d", "2", "f", "3", "behind", "4", "more", "5")
	setting := pairs("d", "x", "a", "y", "d", "z", "g", "w", "behind", "6")
	keys := []string{"d", "b", "behind"}
	wantBacking, wantSetting, wantKeys := slices.Clone(backing), slices.Clone(setting), slices.Clone(keys)
	same := func(what string) {
		t.Helper()
		if !slices.Equal(backing, wantBacking) || !slices.Equal(setting, wantSetting) || !slices.Equal(keys, wantKeys) {
			t.Fatalf("%s: %q, %q, %q", what, backing, setting, keys)
		}
	}
	spoil := func(what string, l []api.Pair) {
		t.Helper()
		same(what)
		l = l[:cap(l)]
		for k := range l {
			l[k] = api.Pair{Key: "spoiled"}
		}
		same(what + ", spoiled")
	}
	for many := range 4 {
		for set := range 5 {
			made, e := Set(backing[:many], setting[:set]...)
			if e != api.OK {
				t.Errorf("Set: %d", e)
			}
			spoil("Set", made)
		}
		for dropped := range 3 {
			spoil("Drop", Drop(backing[:many], keys[:dropped]...))
		}
		Get(backing[:many], "f")
		Print(backing[:many])
		same("Get and Print")
	}
	_, e := Set(backing[:3], setting[0], api.Pair{Key: "A"})
	if e != api.ErrArg {
		t.Error(e)
	}
	same("Set, refused")
	l, _ := Parse("a=1\nb=2\n")
	l[0].Key = "spoiled"
	again, e := Parse("a=1\nb=2\n")
	answers(t, "Parse", again, e, pairs("a", "1", "b", "2"), api.OK)
}

// nil and the empty list are the same.
func TestR3NilAndEmpty(t *testing.T) {
	for _, l := range [][]api.Pair{nil, {}, make([]api.Pair, 0, 5)} {
		prints(t, l, "", api.OK)
		sets(t, l, l, nil, api.OK)
		sets(t, l, pairs("a", "1"), pairs("a", "1"), api.OK)
		drops(t, l, nil, nil)
		drops(t, l, []string{""}, nil)
		if v, ok := Get(l, ""); v != "" || ok {
			t.Errorf("%q, %v", v, ok)
		}
	}
}

func TestR4AnswersAreAlwaysTheSame(t *testing.T) {
	l := pairs("a", "1", "c", "2", "e", "3")
	for range 50 {
		made, e := Set(l, pairs("d", "1", "b", "2", "d", "3")...)
		answers(t, "Set", made, e, pairs("a", "1", "b", "2", "c", "2", "d", "3", "e", "3"), api.OK)
		answers(t, "Drop", Drop(l, "e", "a", "b"), api.OK, pairs("c", "2"), api.OK)
		Set(l, wrong()...)
		Parse("a=1")
		Print(pairs("b", "", "a", ""))
		prints(t, l, "a=1\nc=2\ne=3\n", api.OK)
	}
}
