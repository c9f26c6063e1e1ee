package strs

import (
	"fmt"
	"math"
	"slices"
	"strings"
	"testing"

	"postilion/api"
)

// slow is where a string begins in bytes of strings, each ended by a byte 0: it looks at one after the other. What is not there is appended, if it is allowed.
func slow(bytes, s string) (string, int, api.Errno) {
	if len(s) == 0 || len(s) > 31 {
		return bytes, 0, api.ErrArg
	}
	for i := range len(s) {
		if s[i] == 0 {
			return bytes, 0, api.ErrArg
		}
	}
	at := 0
	for _, other := range strings.SplitAfter(bytes, "\x00") {
		if other == s+"\x00" {
			return bytes, at, api.OK
		}
		at += len(other)
	}
	return bytes + s + "\x00", len(bytes), api.OK
}

// filled is a Block to which strings were added.
func filled(t *testing.T, l ...string) *Block {
	t.Helper()
	b := &Block{}
	for _, s := range l {
		if _, e := b.Add(s); e != api.OK {
			t.Fatalf("Add(%q): %v", s, e)
		}
	}
	return b
}

// add adds to a Block, and to the bytes that it should have; it fails if the two differ.
func add(t *testing.T, b *Block, bytes *string, s string) {
	t.Helper()
	after, want, wantErr := slow(*bytes, s)
	*bytes = after
	if at, e := b.Add(s); at != want || e != wantErr {
		t.Fatalf("Add(%q) is %d, %v, not %d, %v", s, at, e, want, wantErr)
	}
	if got := b.Bytes(); got != after {
		t.Fatalf("behind Add(%q): the bytes are %q, not %q", s, got, after)
	}
}

// wrong are strings that are not allowed.
func wrong() []string {
	return []string{
		"", "\x00", "\x00\x00", "a\x00", "\x00a", "a\x00b", "reg\x00", "reg\x00a",
		strings.Repeat("y", 30) + "\x00", "\x00" + strings.Repeat("y", 30), strings.Repeat("\x00", 31),
		strings.Repeat("y", 32), strings.Repeat("y", 31) + "\x00", strings.Repeat("y", 33), strings.Repeat("y", 1<<16),
		strings.Repeat("ä", 16), // 16 letters, but 32 bytes
	}
}

// sequence is a source of numbers that is the same in each run.
type sequence uint32

// below is the next number, from 0 to n - 1.
func (x *sequence) below(n int) int {
	*x = *x*1664525 + 1013904223
	return int(*x>>8) % n
}

func TestExample(t *testing.T) {
	l, s, e := Offsets("reg", "reg")
	if !slices.Equal(l, []int{0, 0}) || s != "reg\x00" || e != api.OK {
		t.Errorf("%v, %q, %v", l, s, e)
	}
}

func TestSb1ZeroBlock(t *testing.T) {
	var b Block
	if got := b.Bytes(); got != "" {
		t.Errorf("a zero Block has %q", got)
	}
	if at, e := b.Add("a"); at != 0 || e != api.OK || b.Bytes() != "a\x00" {
		t.Errorf("the first string is at %d, %v; %q", at, e, b.Bytes())
	}
	var other Block
	if at, e := other.Add("b"); at != 0 || e != api.OK || other.Bytes() != "b\x00" || b.Bytes() != "a\x00" {
		t.Errorf("the first string of another one is at %d, %v; %q", at, e, other.Bytes())
	}
}

func TestSb1NilBlock(t *testing.T) {
	var b *Block
	for _, s := range append(wrong(), "a", "reg", strings.Repeat("y", 31)) {
		if at, e := b.Add(s); at != 0 || e != api.ErrArg {
			t.Errorf("Add(%q) to a nil Block is %d, %v", s, at, e)
		}
	}
	if got := b.Bytes(); got != "" {
		t.Errorf("a nil Block has %q", got)
	}
}

func TestSb1AddOfAllLengths(t *testing.T) {
	for n := range 70 {
		s, want := strings.Repeat("y", n), api.OK
		if n < 1 || n > 31 {
			want = api.ErrArg
		}
		var b Block
		at, e := b.Add(s)
		if at != 0 || e != want {
			t.Errorf("%d bytes: %d, %v", n, at, e)
		}
		if e == api.OK && b.Bytes() != s+"\x00" || e != api.OK && b.Bytes() != "" {
			t.Errorf("%d bytes: %q", n, b.Bytes())
		}
	}
}

// Of all bytes, only 0 is not allowed, wherever it is; bytes that are no letters are as good as others.
func TestSb1AddOfAllBytes(t *testing.T) {
	for c := range 256 {
		var b Block
		bytes := ""
		for _, n := range []int{1, 2, 31} {
			for place := range n {
				s := []byte(strings.Repeat("y", n))
				s[place] = byte(c)
				before := b.Bytes()
				add(t, &b, &bytes, string(s))
				if c == 0 && b.Bytes() != before {
					t.Errorf("%q was added", s)
				}
				if c != 0 && !strings.Contains(b.Bytes(), string(s)+"\x00") {
					t.Errorf("%q was not added", s)
				}
			}
		}
	}
}

func TestSb1AddInOrder(t *testing.T) {
	var b Block
	for k, x := range []struct {
		s    string
		at   int
		e    api.Errno
		size int
	}{
		{"compatible", 0, api.OK, 11},
		{"reg", 11, api.OK, 15},
		{"compatible", 0, api.OK, 15},
		{"", 0, api.ErrArg, 15},
		{"a", 15, api.OK, 17},
		{"reg\x00", 0, api.ErrArg, 17},
		{strings.Repeat("r", 32), 0, api.ErrArg, 17},
		{"a", 15, api.OK, 17},
		{"reg", 11, api.OK, 17},
		{strings.Repeat("r", 31), 17, api.OK, 49},
		{strings.Repeat("r", 30), 49, api.OK, 80},
		{"compatible", 0, api.OK, 80},
	} {
		if at, e := b.Add(x.s); at != x.at || e != x.e || len(b.Bytes()) != x.size {
			t.Errorf("case %d, %q: %d, %v, %d bytes", k, x.s, at, e, len(b.Bytes()))
		}
	}
	if want := "compatible\x00reg\x00a\x00" + strings.Repeat("r", 31) + "\x00" + strings.Repeat("r", 30) + "\x00"; b.Bytes() != want {
		t.Errorf("%q", b.Bytes())
	}
}

// A string that only ends, begins or is inside another one was not added, though its bytes are there.
func TestSb1AddOfPiecesOfOthers(t *testing.T) {
	b, bytes := filled(t, "interrupts"), "interrupts\x00"
	for first := range 10 {
		for last := first + 1; last <= 10; last++ {
			piece := "interrupts"[first:last]
			added := strings.Contains("\x00"+b.Bytes(), "\x00"+piece+"\x00")
			size := len(b.Bytes())
			add(t, b, &bytes, piece)
			if grown := len(b.Bytes()) - size; !added && grown != len(piece)+1 || added && grown != 0 {
				t.Errorf("%q: %d bytes more", piece, grown)
			}
		}
	}
}

// Strings are compared byte by byte: neither capitals nor the ways to write a letter are made the same.
func TestSb1AddOfStringsThatAreAlike(t *testing.T) {
	l := []string{"Reg", "reg", "REG", "reg ", " reg", "r\u00e9g", "re\u0301g", "\xff", "\xfe", "\ufffd", "\xc3", "\xc3\xa9"}
	offsets, s, e := Offsets(l...)
	if want := strings.Join(l, "\x00") + "\x00"; s != want || e != api.OK {
		t.Errorf("%q, %v", s, e)
	}
	again, same, e := Offsets(append(slices.Clone(l), l...)...)
	if !slices.Equal(again, append(slices.Clone(offsets), offsets...)) || same != s || e != api.OK {
		t.Errorf("%v, %q, %v", again, same, e)
	}
}

func TestSb1RefusedAddChangesNothing(t *testing.T) {
	for _, l := range [][]string{nil, {"a"}, {"reg", "a", strings.Repeat("y", 31)}} {
		b := filled(t, l...)
		before := b.Bytes()
		for _, s := range wrong() {
			for range 2 {
				if at, e := b.Add(s); at != 0 || e != api.ErrArg || b.Bytes() != before {
					t.Errorf("%q, then Add(%q): %d, %v, %q", l, s, at, e, b.Bytes())
				}
			}
		}
		if at, e := b.Add("new"); at != len(before) || e != api.OK || b.Bytes() != before+"new\x00" {
			t.Errorf("%q, then refused ones, then Add: %d, %v, %q", l, at, e, b.Bytes())
		}
	}
}

// What Bytes returned stays as it was.
func TestSb1BytesStay(t *testing.T) {
	var b Block
	var kept, want []string
	all := ""
	for k := range 200 {
		s := fmt.Sprint("p", k)
		add(t, &b, &all, s)
		kept, want = append(kept, b.Bytes()), append(want, strings.Clone(all))
	}
	if !slices.Equal(kept, want) {
		t.Error("earlier bytes were changed")
	}
}

func TestSb1Get(t *testing.T) {
	long := strings.Repeat("z", 100)
	for k, x := range []struct {
		s    string
		at   int
		want string
		e    api.Errno
	}{
		{"ab\x00", 0, "ab", api.OK},
		{"ab\x00", 1, "b", api.OK},
		{"ab\x00", 2, "", api.OK},
		{"ab\x00", 3, "", api.ErrRange},
		{"ab\x00", 4, "", api.ErrRange},
		{"ab\x00", -1, "", api.ErrRange},
		{"ab\x00", math.MinInt, "", api.ErrRange},
		{"ab\x00", api.MaxInt, "", api.ErrRange},
		{"ab\x00", 1 << 32, "", api.ErrRange},
		{"", 0, "", api.ErrRange},
		{"", -1, "", api.ErrRange},
		{"ab", 0, "", api.ErrForm},
		{"ab", 1, "", api.ErrForm},
		{"ab", 2, "", api.ErrRange}, // ahead of ErrForm
		{"ab", -1, "", api.ErrRange},
		{"a\x00b", 0, "a", api.OK},
		{"a\x00b", 1, "", api.OK},
		{"a\x00b", 2, "", api.ErrForm},
		{"a\x00b\x00", 0, "a", api.OK},
		{"a\x00b\x00", 2, "b", api.OK},
		{"\x00", 0, "", api.OK},
		{"\x00\x00\x00", 1, "", api.OK},
		{"\x00\x00\x00", 2, "", api.OK},
		{"\x00\x00\x00", 3, "", api.ErrRange},
		{"0\x00", 0, "0", api.OK}, // the digit is not the byte
		{"\xff\xfe\x80\x00", 1, "\xfe\x80", api.OK},
		{"ä\x00", 1, "\xa4", api.OK},
		{long + "\x00", 0, long, api.OK}, // longer than Add allows
		{long, 99, "", api.ErrForm},
	} {
		if got, e := Get(x.s, x.at); got != x.want || e != x.e {
			t.Errorf("case %d: Get(%q, %d) is %q, %v", k, x.s, x.at, got, e)
		}
	}
}

// All strings of up to six bytes, of which each is 0, a letter or a byte that is none, at all positions.
func TestSb1GetOfAllShortStrings(t *testing.T) {
	level := []string{""}
	for range 7 {
		var longer []string
		for _, s := range level {
			for at := -2; at <= len(s)+2; at++ {
				want, wantErr := "", api.ErrRange
				if at >= 0 && at < len(s) {
					wantErr = api.ErrForm
					for i := at; i < len(s) && wantErr != api.OK; i++ {
						if s[i] == 0 {
							want, wantErr = s[at:i], api.OK
						}
					}
				}
				if got, e := Get(s, at); got != want || e != wantErr {
					t.Errorf("Get(%q, %d) is %q, %v, not %q, %v", s, at, got, e, want, wantErr)
				}
			}
			longer = append(longer, s+"\x00", s+"a", s+"\xff")
		}
		level = longer
	}
}

func TestSb1Offsets(t *testing.T) {
	for k, x := range []struct {
		l    []string
		want []int
		s    string
	}{
		{nil, nil, ""},
		{[]string{}, nil, ""},
		{[]string{"x"}, []int{0}, "x\x00"},
		{[]string{"x", "yz", "x"}, []int{0, 2, 0}, "x\x00yz\x00"},
		{[]string{"x", "x", "x", "x"}, []int{0, 0, 0, 0}, "x\x00"},
		{[]string{"reg", "eg", "g", "eg", "reg"}, []int{0, 4, 7, 4, 0}, "reg\x00eg\x00g\x00"},
		{[]string{strings.Repeat("y", 31), "y", strings.Repeat("y", 31)}, []int{0, 32, 0}, strings.Repeat("y", 31) + "\x00y\x00"},
	} {
		l, s, e := Offsets(x.l...)
		if !slices.Equal(l, x.want) || s != x.s || e != api.OK {
			t.Errorf("case %d: %v, %q, %v", k, l, s, e)
		}
	}
}

// Wherever one string is not allowed, there is nothing beside the error.
func TestSb1OffsetsOfWrongStrings(t *testing.T) {
	for _, bad := range wrong() {
		for place := range 5 {
			l := slices.Insert([]string{"reg", "a", "reg", "b"}, place, bad)
			if offsets, s, e := Offsets(l...); len(offsets) != 0 || s != "" || e != api.ErrArg {
				t.Errorf("%q: %v, %q, %v", l, offsets, s, e)
			}
		}
	}
	if l, s, e := Offsets("a"); !slices.Equal(l, []int{0}) || s != "a\x00" || e != api.OK {
		t.Errorf("behind refused ones: %v, %q, %v", l, s, e)
	}
}

// Neither the list nor the memory behind its end is changed; each answer is memory of its own.
func TestSb1OffsetsLeavesItsList(t *testing.T) {
	whole := []string{"reg", "a", "reg", "behind", "the end"}
	before := slices.Clone(whole)
	first, s, e := Offsets(whole[:3]...)
	if !slices.Equal(whole, before) || s != "reg\x00a\x00" || e != api.OK {
		t.Errorf("%q, %q, %v", whole, s, e)
	}
	first[0], first[1], first[2] = 7, 8, 9
	if again, same, e := Offsets(whole[:3]...); !slices.Equal(again, []int{0, 4, 0}) || same != s || e != api.OK {
		t.Errorf("the second answer is %v, %q, %v", again, same, e)
	}
}

// All lists of up to five of some strings, wrong ones among them, beside one that is told string by string.
func TestSb1AllShortLists(t *testing.T) {
	alphabet := []string{"a", "b", "ab", "ba", "b\x00", ""}
	var try func(l []string)
	try = func(l []string) {
		var b Block
		var want []int
		bytes, failed := "", api.OK
		for _, s := range l {
			_, at, e := slow(bytes, s)
			if want = append(want, at); e != api.OK && failed == api.OK {
				failed = e
			}
			add(t, &b, &bytes, s)
		}
		if failed != api.OK {
			want, bytes = nil, ""
		}
		if offsets, s, e := Offsets(l...); !slices.Equal(offsets, want) || s != bytes || e != failed {
			t.Fatalf("%q: %v, %q, %v", l, offsets, s, e)
		}
		if len(l) < 5 {
			for _, s := range alphabet {
				try(append(slices.Clone(l), s))
			}
		}
	}
	try(nil)
}

func TestSb2FoundAtItsPosition(t *testing.T) {
	for seed := range 30 {
		x := sequence(seed)
		var b Block
		bytes, where := "", map[string]int{}
		for range 300 {
			s := strings.Repeat(string(rune('a'+x.below(4))), x.below(33)) + string([]byte{byte(x.below(256))})
			add(t, &b, &bytes, s)
			at, e := b.Add(s)
			if e != api.OK {
				continue
			}
			if before, known := where[s]; known && before != at {
				t.Fatalf("run %d: %q was at %d, and is at %d", seed, s, before, at)
			}
			where[s] = at
			all := b.Bytes()
			for old, at := range where {
				if got, e := Get(all, at); got != old || e != api.OK {
					t.Fatalf("run %d: at %d there is %q, %v, not %q", seed, at, got, e, old)
				}
			}
		}
		places := map[int]string{}
		for s, at := range where {
			if other, taken := places[at]; taken {
				t.Errorf("run %d: %q and %q begin at %d", seed, s, other, at)
			}
			places[at] = s
		}
	}
}

// So many strings that a Block which looked at all of them each time would not end soon.
func TestSb2ManyStrings(t *testing.T) {
	const many = 200000
	var l []string
	for k := range many {
		l = append(l, fmt.Sprint("property-", k))
	}
	offsets, bytes, e := Offsets(append(slices.Clone(l), l...)...)
	if e != api.OK || len(offsets) != 2*many || bytes != strings.Join(l, "\x00")+"\x00" {
		t.Fatalf("%v: %d positions, %d bytes", e, len(offsets), len(bytes))
	}
	if !slices.Equal(offsets[:many], offsets[many:]) {
		t.Error("the second time, they are elsewhere")
	}
	for k, s := range l {
		if got, e := Get(bytes, offsets[k]); got != s || e != api.OK {
			t.Fatalf("at %d there is %q, %v, not %q", offsets[k], got, e, s)
		}
	}
}

// What is added to a copy is not added to the other one.
func TestSb2Copies(t *testing.T) {
	first := *filled(t, "reg", "a")
	second := first
	one, other := "reg\x00a\x00", "reg\x00a\x00"
	for _, s := range []string{"b", "c", "reg", "long-name"} {
		add(t, &first, &one, s)
	}
	if second.Bytes() != other {
		t.Errorf("the copy has %q", second.Bytes())
	}
	for _, s := range []string{"long-name", "c", "a", "b", "x"} {
		add(t, &second, &other, s)
	}
	for _, s := range []string{"x", "a", "y", "b"} {
		add(t, &first, &one, s)
	}
	if second.Bytes() != other {
		t.Errorf("the copy has %q", second.Bytes())
	}
}

// Blocks that are copied to one another's places between calls, each beside bytes that are copied with it.
func TestSb2CopiesOfCopies(t *testing.T) {
	for seed := range 200 {
		x := sequence(seed)
		var blocks [4]Block
		var bytes [4]string
		for range 200 {
			k := x.below(4)
			if x.below(4) == 0 {
				from := x.below(4)
				blocks[k], bytes[k] = blocks[from], bytes[from]
				continue
			}
			add(t, &blocks[k], &bytes[k], fmt.Sprint("p", x.below(12)))
			for i := range blocks {
				if blocks[i].Bytes() != bytes[i] {
					t.Fatalf("run %d: Block %d has %q, not %q", seed, i, blocks[i].Bytes(), bytes[i])
				}
			}
		}
	}
}
