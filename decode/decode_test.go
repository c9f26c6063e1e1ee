package decode

import (
	"encoding/binary"
	"fmt"
	"math"
	"math/rand/v2"
	"reflect"
	"slices"
	"strconv"
	"strings"
	"testing"

	"postilion/api"
	"postilion/head"
	"postilion/token"
	"postilion/tree"
)

// The tokens without names, as bytes.
const (
	end  = "\x00\x00\x00\x02"
	nop  = "\x00\x00\x00\x04"
	stop = "\x00\x00\x00\x09"
)

// big are the bytes of numbers of 32 bits.
func big(l ...int) string {
	var b []byte
	for _, n := range l {
		b = binary.BigEndian.AppendUint32(b, uint32(n))
	}
	return string(b)
}

// full are bytes, with bytes 0 behind them until they can be divided by a number.
func full(s string, by int) string {
	for len(s)%by != 0 {
		s += "\x00"
	}
	return s
}

// begin is a TokBegin as bytes.
func begin(name string) string { return "\x00\x00\x00\x01" + full(name+"\x00", 4) }

// prop is a TokProp as bytes.
func prop(place int, value string) string { return big(3, len(value), place) + full(value, 4) }

// pairs are spans as bytes, without a pair that ends them.
func pairs(l ...api.Span) string {
	var b []byte
	for _, x := range l {
		b = binary.BigEndian.AppendUint64(b, uint64(x.At))
		b = binary.BigEndian.AppendUint64(b, uint64(x.N))
	}
	return string(b)
}

// last is the pair that ends reserved spans.
const last = "\x00\x00\x00\x00\x00\x00\x00\x00\x00\x00\x00\x00\x00\x00\x00\x00"

// many are so many spans, all of them different.
func many(n int) []api.Span {
	var l []api.Span
	for k := range n {
		l = append(l, api.Span{At: 100 * k, N: 1 + k})
	}
	return l
}

// source is what the bytes of a tree are made of.
type source struct {
	reserve   string
	structure string
	texts     string
	boot      int
}

// header are the ten numbers of a header as bytes; parts are where the structure, the strings and the reserved spans begin.
func (x source) header(total int, parts [3]int) string {
	return big(0xd00dfeed, total, parts[0], parts[1], parts[2], 17, 16, x.boot, len(x.texts), len(x.structure))
}

// bytes lays the parts down behind the header: the reserved spans, the structure, and the strings.
func (x source) bytes() string {
	at := 40 + len(x.reserve)
	total := at + len(x.structure) + len(x.texts)
	return x.header(total, [3]int{at, at + len(x.structure), 40}) + x.reserve + x.structure + x.texts
}

// turned lays them down with the reserved spans behind all else, so that nothing follows them.
func (x source) turned() string {
	front := full(x.structure+x.texts, 8)
	total := 40 + len(front) + len(x.reserve)
	return x.header(total, [3]int{40, 40 + len(x.structure), 40 + len(front)}) + front + x.reserve
}

// ordinary is a source, and the tree that its bytes are.
func ordinary() (source, api.Tree) {
	spans := []api.Span{{At: 0x1000, N: 0x200}, {At: api.Max32, N: 0}}
	s := source{
		reserve:   pairs(spans...) + last,
		structure: begin("") + prop(0, "ab") + nop + prop(4, "") + begin("cpu@0") + prop(1, "wxyz") + prop(0, "12345") + end + nop + begin("memory") + begin("a") + end + end + end + stop,
		texts:     "reg\x00on\x00",
		boot:      3,
	}
	return s, api.Tree{
		Root: api.Node{
			Props: []api.Prop{{Name: "reg", Value: "ab"}, {Name: "on"}},
			Kids: []api.Node{
				{Name: "cpu@0", Props: []api.Prop{{Name: "eg", Value: "wxyz"}, {Name: "reg", Value: "12345"}}},
				{Name: "memory", Kids: []api.Node{{Name: "a"}}},
			},
		},
		Reserve: spans,
		Boot:    3,
	}
}

// slowReserve reads spans as the chapter says it, pair by pair.
func slowReserve(s string, at int) ([]api.Span, api.Errno) {
	if at < 0 || at > len(s) {
		return nil, api.ErrShort
	}
	rest := []byte(s[at:])
	var l []api.Span
	for count := 1; ; count++ {
		if len(rest) < 16 {
			return nil, api.ErrShort
		}
		at, n := binary.BigEndian.Uint64(rest), binary.BigEndian.Uint64(rest[8:])
		switch {
		case at == 0 && n == 0:
			return l, api.OK
		case at >= 1<<32 || n >= 1<<32:
			return nil, api.ErrForm
		case count == 17:
			return nil, api.ErrBig
		}
		l = append(l, api.Span{At: int(at), N: int(n)})
		rest = rest[16:]
	}
}

// slowTree reads a tree as the chapter says it: the header, the reserved spans, the tokens, and the tree of these.
func slowTree(s string) (api.Tree, api.Errno) {
	h, e := head.Read(s)
	if e != api.OK {
		return api.Tree{}, e
	}
	all := []byte(s)[:h.Total]
	spans, e := slowReserve(string(all), h.Reserve)
	if e != api.OK {
		return api.Tree{}, e
	}
	tokens, e := token.Read(string(all[h.Struct:h.Struct+h.Size]), string(all[h.Strings:h.Strings+h.Texts]))
	if e != api.OK {
		return api.Tree{}, e
	}
	n, e := tree.Of(tokens)
	if e != api.OK {
		return api.Tree{}, e
	}
	return api.Tree{Root: n, Reserve: spans, Boot: h.Boot}, api.OK
}

// same tells whether trees are the same, with what belongs to them.
func same(a, b api.Tree) bool {
	return tree.Same(a.Root, b.Root) && slices.Equal(a.Reserve, b.Reserve) && a.Boot == b.Boot
}

// fits tells whether a tree is not too big, and has no number of more than 32 bits.
func fits(x api.Tree) bool {
	nodes, props, depth := tree.Count(x.Root)
	right := tree.Fits(x.Root) && nodes <= 64 && props <= 256 && depth <= 8 && len(x.Reserve) <= 16 && x.Boot >= 0 && x.Boot <= api.Max32
	for _, r := range x.Reserve {
		right = right && r.At >= 0 && r.At <= api.Max32 && r.N >= 0 && r.N <= api.Max32 && r != api.Span{}
	}
	return right
}

// agrees fails if Tree and Size do not answer what a plain reading does, or if a tree does not fit.
func agrees(t *testing.T, s string) api.Errno {
	t.Helper()
	want, wantErr := slowTree(s)
	x, e := Tree(s)
	if e != wantErr || !same(x, want) {
		t.Fatalf("Tree(%q) is %+v, %v, not %+v, %v", s, x, e, want, wantErr)
	}
	if e != api.OK && !reflect.DeepEqual(x, api.Tree{}) {
		t.Fatalf("Tree(%q) is %+v beside %v", s, x, e)
	}
	if e == api.OK && !fits(x) {
		t.Fatalf("Tree(%q) does not fit: %+v", s, x)
	}
	h, wantErr := head.Read(s)
	if n, e := Size(s); n != h.Total || e != wantErr {
		t.Fatalf("Size(%q) is %d, %v, not %d, %v", s, n, e, h.Total, wantErr)
	}
	return e
}

// decodes fails if Tree does not answer a tree, or an error and nothing else, or if the plain reading answers otherwise.
func decodes(t *testing.T, what, s string, want api.Tree, wantErr api.Errno) {
	t.Helper()
	if x, e := Tree(s); !same(x, want) || e != wantErr {
		t.Errorf("%s: %+v, %v, not %+v, %v", what, x, e, want, wantErr)
	}
	if e := agrees(t, s); e != wantErr {
		t.Errorf("%s: the plain reading is %v, not %v", what, e, wantErr)
	}
}

// refuses fails if Tree does not answer an error, and nothing else.
func refuses(t *testing.T, what, s string, want api.Errno) {
	t.Helper()
	decodes(t, what, s, api.Tree{}, want)
}

// reserves fails if Reserve does not answer spans, or an error and nothing else, or if the plain reading answers otherwise.
func reserves(t *testing.T, s string, at int, want []api.Span, wantErr api.Errno) {
	t.Helper()
	if l, e := Reserve(s, at); !slices.Equal(l, want) || e != wantErr {
		t.Errorf("Reserve(%q, %d) is %v, %v, not %v, %v", s, at, l, e, want, wantErr)
	}
	if l, e := slowReserve(s, at); !slices.Equal(l, want) || e != wantErr {
		t.Errorf("the plain reading of %q at %d is %v, %v, not %v, %v", s, at, l, e, want, wantErr)
	}
}

func TestExample(t *testing.T) {
	refuses(t, "no bytes", "", api.ErrShort)
}

func TestDe1Reserve(t *testing.T) {
	for _, l := range [][]api.Span{
		nil,
		{{At: 0x1000, N: 0x200}},
		// A span with one number 0 does not end them.
		{{At: 1}},
		{{N: 1}},
		{{At: 1}, {N: 1}, {At: 1}},
		{{At: api.Max32, N: api.Max32}, {At: 1 << 31, N: 1 << 31}},
		{{At: 0x01020304, N: 0x05060708}},
		// They are in no order, and may be the same or overlap.
		{{At: 9, N: 9}, {At: 3, N: 100}, {At: 9, N: 9}},
		many(15),
		many(16),
	} {
		s := pairs(l...) + last
		reserves(t, s, 0, l, api.OK)
		for _, behind := range []string{"x", last, pairs(many(17)...), big(1, 0, 0, 0), "\x00"} {
			reserves(t, s+behind, 0, l, api.OK)
		}
		for _, ahead := range []string{"x", "abcdefgh", last, "\xff\xff\xff", strings.Repeat("y", 101)} {
			reserves(t, ahead+s, len(ahead), l, api.OK)
		}
		for k := range l {
			reserves(t, s, 16*k, l[k:], api.OK)
		}
	}
	reserves(t, "\x00\x00\x00\x00\x01\x02\x03\x04\x00\x00\x00\x00\x00\x00\x00\x05"+last, 0, []api.Span{{At: 0x01020304, N: 5}}, api.OK)
}

func TestDe1ReserveShort(t *testing.T) {
	s := pairs(many(3)...) + last
	for _, at := range []int{-1, -8, -16, -len(s), math.MinInt, math.MinInt + 16, len(s), len(s) + 1, len(s) + 16, len(s) - 1, len(s) - 15, 1 << 31, 1 << 32, 1 << 62, math.MaxInt, math.MaxInt - 15, math.MaxInt - 16} {
		reserves(t, s, at, nil, api.ErrShort)
	}
	reserves(t, s, len(s)-16, nil, api.OK)
	for k := range len(s) {
		reserves(t, s[:k], 0, nil, api.ErrShort)
	}
	for _, at := range []int{-16, -1, 0, 1, 16} {
		reserves(t, "", at, nil, api.ErrShort)
	}
	// What is in a pair does not count unless all of it is there.
	reserves(t, strings.Repeat("\xff", 15), 0, nil, api.ErrShort)
	reserves(t, strings.Repeat("\xff", 16), 1, nil, api.ErrShort)
	reserves(t, strings.Repeat("\xff", 16), -1, nil, api.ErrShort)
}

// Each bit of a lower half makes a span, and each bit of an upper half is refused, also where all other bits of the pair are 0.
func TestDe1ReserveBits(t *testing.T) {
	for _, before := range []int{0, 1, 2, 15} {
		ahead := pairs(many(before)...)
		for bit := range 64 {
			for _, x := range []api.Span{{}, {At: 1, N: 1}, {At: api.Max32, N: api.Max32}} {
				for _, x := range []api.Span{{At: x.At | 1<<bit, N: x.N}, {At: x.At, N: x.N | 1<<bit}} {
					want, e := append(many(before), x), api.OK
					if bit >= 32 {
						want, e = nil, api.ErrForm
					}
					reserves(t, ahead+pairs(x)+last, 0, want, e)
				}
			}
		}
	}
}

func TestDe1ReserveMany(t *testing.T) {
	for n := range 40 {
		want, e := many(n), api.OK
		if n > 16 {
			want, e = nil, api.ErrBig
		}
		reserves(t, pairs(many(n)...)+last, 0, want, e)
	}
	// The 17th span is too many whatever follows it, but only if it is one.
	for _, x := range []struct {
		behind string
		e      api.Errno
	}{
		{"", api.ErrShort},
		{last[:15], api.ErrShort},
		{strings.Repeat("\xff", 15), api.ErrShort},
		{big(1, 0, 0, 0), api.ErrForm},
		{big(0, 0, 1, 0), api.ErrForm},
		{strings.Repeat("\xff", 16), api.ErrForm},
		{big(0, 1, 0, 0), api.ErrBig},
		{big(0, 0, 0, 1), api.ErrBig},
		{big(0, 1, 0, 0) + "\x00", api.ErrBig},
		{big(0, 1, 0, 0) + big(1, 0, 1, 0), api.ErrBig},
	} {
		reserves(t, pairs(many(16)...)+x.behind, 0, nil, x.e)
	}
}

// Pair by pair, and in a pair what is missing ahead of what is wrong.
func TestDe1ReserveOrderOfErrors(t *testing.T) {
	for _, x := range []struct {
		s string
		e api.Errno
	}{
		{pairs(many(2)...) + big(1, 0, 0, 0) + "x", api.ErrForm},
		{big(0, 0, 1, 0) + pairs(many(20)...), api.ErrForm},
		{pairs(many(20)...) + big(0, 0, 1, 0), api.ErrBig},
		{pairs(many(2)...) + strings.Repeat("\xff", 15), api.ErrShort},
		{pairs(many(2)...) + last + strings.Repeat("\xff", 99), api.OK},
	} {
		want := many(2)
		if x.e != api.OK {
			want = nil
		}
		reserves(t, x.s, 0, want, x.e)
	}
}

// All lists of up to four pairs of seven kinds, cut off anywhere, are read as a plain reading of the chapter reads them.
func TestDe1ReserveAllShort(t *testing.T) {
	kinds := []string{last, big(0, 1, 0, 0), big(0, 0, 0, 7), big(0, api.Max32, 0, 1), big(1, 0, 0, 0), big(0, 5, 1<<31, 5), strings.Repeat("\xff", 16)}
	found := map[api.Errno]int{}
	lists := []string{""}
	for range 4 {
		var longer []string
		for _, s := range lists {
			for _, kind := range kinds {
				longer = append(longer, s+kind)
			}
		}
		lists = longer
		for _, s := range lists {
			for _, at := range []int{-16, -1, 0, 1, 4, 8, 16, 31, 32, 48, len(s)} {
				for _, cut := range []int{0, 1, 4, 15, 16} {
					s := s[:len(s)-cut]
					l, e := Reserve(s, at)
					want, wantErr := slowReserve(s, at)
					if e != wantErr || !slices.Equal(l, want) || e != api.OK && l != nil {
						t.Fatalf("Reserve(%q, %d) is %v, %v, not %v, %v", s, at, l, e, want, wantErr)
					}
					found[e]++
				}
			}
		}
	}
	for _, e := range []api.Errno{api.OK, api.ErrShort, api.ErrForm} {
		if found[e] < 1000 {
			t.Errorf("%d times %v", found[e], e)
		}
	}
}

func TestDe1Size(t *testing.T) {
	x, _ := ordinary()
	s := x.bytes()
	for _, behind := range []string{"", "x", s, strings.Repeat("\x00", 20000)} {
		if n, e := Size(s + behind); n != len(s) || e != api.OK {
			t.Errorf("with %d bytes behind: %d, %v", len(behind), n, e)
		}
	}
	for k := range len(s) {
		if n, e := Size(s[:k]); n != 0 || e != api.ErrShort {
			t.Errorf("of %d bytes: %d, %v", k, n, e)
		}
	}
	// Only the header counts.
	for _, total := range []int{40, 41, 100, 16384} {
		s := big(0xd00dfeed, total, 40, 40, 40, 17, 16, 0, 0, 0) + strings.Repeat("\xff", total-40)
		if n, e := Size(s); n != total || e != api.OK {
			t.Errorf("a Total of %d: %d, %v", total, n, e)
		}
		if e := agrees(t, s); e == api.OK {
			t.Errorf("a header with a Total of %d and nothing else is a tree", total)
		}
	}
	zeros := strings.Repeat("\x00", 20000)
	for _, x := range []struct {
		s string
		e api.Errno
	}{
		{"", api.ErrShort},
		{"\xd0\x0d\xfe\xed", api.ErrShort},
		{zeros, api.ErrForm},
		{big(0xd00dfeec, 56, 40, 40, 40, 17, 16, 0, 0, 0) + zeros, api.ErrForm},
		{big(0xd00dfeed, 56, 40, 40, 40, 16, 16, 0, 0, 0) + zeros, api.ErrForm},
		{big(0xd00dfeed, 56, 40, 40, 40, 17, 18, 0, 0, 0) + zeros, api.ErrForm},
		{big(0xd00dfeed, 16385, 40, 40, 40, 17, 16, 0, 0, 0) + zeros, api.ErrBig},
		{big(0xd00dfeed, 39, 40, 40, 40, 17, 16, 0, 0, 0) + zeros, api.ErrForm},
		{big(0xd00dfeed, 56, 42, 40, 40, 17, 16, 0, 0, 0) + zeros, api.ErrForm},
		{big(0xd00dfeed, 56, 40, 40, 40, 17, 16, 0, 17, 0) + zeros, api.ErrForm},
	} {
		if n, e := Size(x.s); n != 0 || e != x.e {
			t.Errorf("%.40q: %d, %v, not %v", x.s, n, e, x.e)
		}
		refuses(t, fmt.Sprintf("%.40q", x.s), x.s, x.e)
	}
}

func TestDe2Tree(t *testing.T) {
	x, want := ordinary()
	for _, s := range []string{x.bytes(), x.turned()} {
		for _, behind := range []string{"", "x", stop, s, strings.Repeat("\x00", 20000)} {
			decodes(t, "with bytes behind", s+behind, want, api.OK)
		}
		for k := range len(s) {
			refuses(t, "cut off", s[:k], api.ErrShort)
		}
	}
	least := source{reserve: last, structure: begin("") + end + stop}
	for _, boot := range []int{0, 1, 1 << 31, api.Max32} {
		least.boot = boot
		decodes(t, "a root alone", least.bytes(), api.Tree{Boot: boot}, api.OK)
		decodes(t, "a root alone", least.turned(), api.Tree{Boot: boot}, api.OK)
	}
	// A root may have a name here, and so may children, whatever it is.
	least.structure = begin("a/b ") + begin("") + end + begin("") + end + end + stop
	decodes(t, "names", least.bytes(), api.Tree{Root: api.Node{Name: "a/b ", Kids: []api.Node{{}, {}}}, Boot: api.Max32}, api.OK)
	// One as another tool writes it, byte by byte.
	decodes(t, "bytes", "\xd0\x0d\xfe\xed\x00\x00\x00\x61\x00\x00\x00\x38\x00\x00\x00\x5c\x00\x00\x00\x28\x00\x00\x00\x11\x00\x00\x00\x10\x00\x00\x00\x02\x00\x00\x00\x05\x00\x00\x00\x24"+
		"\x00\x00\x00\x00\x00\x00\x00\x00\x00\x00\x00\x00\x00\x00\x00\x00"+
		"\x00\x00\x00\x01\x00\x00\x00\x00\x00\x00\x00\x03\x00\x00\x00\x03\x00\x00\x00\x00me!\x00\x00\x00\x00\x04\x00\x00\x00\x02\x00\x00\x00\x09"+
		"name\x00", api.Tree{Root: api.Node{Props: []api.Prop{{Name: "name", Value: "me!"}}}, Boot: 2}, api.OK)
}

// A header of a newer version, which says that a reader of this one can read it, is read too.
func TestDe2Versions(t *testing.T) {
	x, want := ordinary()
	s := x.bytes()
	for _, version := range []int{17, 18, api.Max32} {
		for _, oldest := range []int{0, 16, 17} {
			decodes(t, "a version", s[:20]+big(version, oldest)+s[28:], want, api.OK)
		}
		refuses(t, "a version", s[:20]+big(version, 18)+s[28:], api.ErrForm)
	}
	refuses(t, "a version", s[:20]+big(16, 16)+s[28:], api.ErrForm)
}

// The parts may be in any order, with other bytes between them.
func TestDe2Places(t *testing.T) {
	x, want := ordinary()
	parts := [3]string{x.structure, x.texts, x.reserve}
	for _, order := range [][3]int{{0, 1, 2}, {0, 2, 1}, {1, 0, 2}, {1, 2, 0}, {2, 0, 1}, {2, 1, 0}} {
		for gap := range 9 {
			body := strings.Repeat("\xff", gap)
			var places [3]int
			for _, k := range order {
				if k != 1 {
					body = full(body, 8)
				}
				places[k] = 40 + len(body)
				body += parts[k] + strings.Repeat("\xff", gap)
			}
			decodes(t, "places", x.header(40+len(body), places)+body, want, api.OK)
		}
	}
	// The chapter does not say that they have no byte in common: here, the strings are in a value, and so is the end of the reserved spans.
	value := "reg\x00" + last
	s := begin("") + prop(0, value) + end + stop
	shared := big(0xd00dfeed, 40+len(s), 40, 40+20, 40+24, 17, 16, 7, 4, len(s)) + s
	decodes(t, "shared", shared, api.Tree{Root: api.Node{Props: []api.Prop{{Name: "reg", Value: value}}}, Boot: 7}, api.OK)
}

// Each part is cut out as the header says: what is behind it is not read, even if it would be right.
func TestDe2PartsEnd(t *testing.T) {
	x, want := ordinary()
	size, texts := len(x.structure), len(x.texts)
	at := 40 + len(x.reserve)
	tail := strings.Repeat("\x00", 64)
	body := x.reserve + x.structure + x.texts
	for _, y := range []struct {
		what        string
		size, texts int
		e           api.Errno
	}{
		{"as it is", size, texts, api.OK},
		{"more strings", size, texts + 1, api.OK},
		{"no end of the last name", size, texts - 1, api.ErrForm},
		{"no strings", size, 0, api.ErrForm},
		{"no TokStop", size - 4, texts, api.ErrShort},
		{"a part of TokStop", size - 1, texts, api.ErrShort},
		{"no structure", 0, texts, api.ErrShort},
		{"bytes behind TokStop", size + 1, texts, api.ErrForm},
		{"four bytes behind TokStop", size + 4, texts, api.ErrForm},
	} {
		s := big(0xd00dfeed, 40+len(body)+8, at, at+size, 40, 17, 16, 3, y.texts, y.size) + body + tail
		if y.e == api.OK {
			decodes(t, y.what, s, want, api.OK)
			continue
		}
		refuses(t, y.what, s, y.e)
	}
	// Strings and a structure of no bytes may begin where all bytes end; strings may be empty, a structure may not.
	s := begin("") + end + stop
	decodes(t, "strings at the end", big(0xd00dfeed, 56+len(s), 56, 56+len(s), 40, 17, 16, 0, 0, len(s))+last+s+tail, api.Tree{}, api.OK)
	refuses(t, "a structure at the end", big(0xd00dfeed, 56, 56, 40, 40, 17, 16, 0, 0, 0)+last+s+tail, api.ErrShort)
}

// The reserved spans are among the first Total bytes, whatever follows these.
func TestDe2ReserveIsWithinTotal(t *testing.T) {
	s := begin("") + end + stop
	tail := strings.Repeat("\x00", 64)
	for _, spans := range [][]api.Span{nil, many(1), many(16)} {
		body := s + pairs(spans...) + last
		total := 40 + len(body)
		for missing := range 17 {
			h := big(0xd00dfeed, total-missing, 40, 40, 40+len(s), 17, 16, 0, 0, len(s))
			if missing == 0 {
				decodes(t, "all pairs", h+body+tail, api.Tree{Reserve: spans}, api.OK)
				continue
			}
			refuses(t, "a pair that is not within Total", h+body+tail, api.ErrShort)
		}
	}
}

// broken is something that may be wrong with a part, and the error by which it is told.
type broken struct {
	what  string
	part  string
	texts string
	e     api.Errno
}

// structures are structures that are right, or wrong in one way or more.
func structures() []broken {
	levels := strings.Repeat(begin("a"), 9)
	wide := begin("") + strings.Repeat(begin("k")+end, 64)
	props := begin("") + strings.Repeat(prop(0, ""), 257)
	texts := "reg\x00"
	return []broken{
		{"right", begin("") + prop(0, "x") + end + stop, texts, api.OK},
		{"nothing", "", texts, api.ErrShort},
		{"no TokStop", begin("") + end, texts, api.ErrShort},
		{"a part of a value", begin("") + big(3, 5, 0) + "abcd", texts, api.ErrShort},
		{"a kind", begin("") + big(5) + end + stop, texts, api.ErrForm},
		{"a name of 32 bytes", begin(strings.Repeat("n", 32)) + end + stop, texts, api.ErrForm},
		{"a property without a name", begin("") + prop(3, "") + end + stop, texts, api.ErrForm},
		{"a name that does not end", begin("") + prop(0, "") + end + stop, "reg", api.ErrForm},
		{"bytes behind TokStop", begin("") + end + stop + stop, texts, api.ErrForm},
		{"1025 tokens", begin("") + strings.Repeat(nop, 1022) + end + stop, texts, api.ErrBig},
		{"no tokens", stop, texts, api.ErrForm},
		{"no node", nop + nop + stop, texts, api.ErrForm},
		{"a TokEnd first", end + begin("") + end + stop, texts, api.ErrForm},
		{"a property first", prop(0, "") + begin("") + end + stop, texts, api.ErrForm},
		{"a node that has not ended", begin("") + stop, texts, api.ErrForm},
		{"two roots", begin("") + end + begin("") + end + stop, texts, api.ErrForm},
		{"a property behind a child", begin("") + begin("a") + end + prop(0, "") + end + stop, texts, api.ErrForm},
		{"nine levels", levels + strings.Repeat(end, 9) + stop, texts, api.ErrDepth},
		{"65 nodes", wide + end + stop, texts, api.ErrBig},
		{"257 properties", props + end + stop, texts, api.ErrBig},
		// What is wrong with a later token is told ahead of what is wrong with the tree.
		{"nine levels and no TokStop", levels + strings.Repeat(end, 9), texts, api.ErrShort},
		{"nine levels and a kind", levels + strings.Repeat(end, 9) + big(0) + stop, texts, api.ErrForm},
		{"nine levels and 1025 tokens", levels + strings.Repeat(end, 9) + strings.Repeat(nop, 1006) + stop, texts, api.ErrBig},
		{"65 nodes and a kind", wide + end + big(7) + stop, texts, api.ErrForm},
		{"257 properties and no TokStop", props + end, texts, api.ErrShort},
		{"two roots and no TokStop", begin("") + end + begin("") + end, texts, api.ErrShort},
		{"two roots and 1025 tokens", begin("") + end + begin("") + end + strings.Repeat(nop, 1021), texts, api.ErrBig},
	}
}

// Of several errors that is told which comes first: of the header, of the reserved spans, of the tokens, and of the tree.
func TestDe2OrderOfErrors(t *testing.T) {
	heads := []struct {
		what   string
		change func(s string) string
		e      api.Errno
	}{
		{"right", func(s string) string { return s }, api.OK},
		{"more bytes", func(s string) string { return s + last }, api.OK},
		{"a byte less", func(s string) string { return s[:len(s)-1] }, api.ErrShort},
		{"half a header", func(s string) string { return s[:20] }, api.ErrShort},
		{"another kind", func(s string) string { return "\xd1" + s[1:] }, api.ErrForm},
		{"a great Total", func(s string) string { return s[:4] + big(16385) + s[8:] }, api.ErrBig},
		{"a place within the header", func(s string) string { return s[:16] + big(32) + s[20:] }, api.ErrForm},
	}
	spans := []broken{
		{"right", last, "", api.OK},
		{"16 spans", pairs(many(16)...) + last, "", api.OK},
		{"no end", pairs(many(2)...), "", api.ErrShort},
		{"a part of the end", pairs(many(2)...) + last[:15], "", api.ErrShort},
		{"no spans", "", "", api.ErrShort},
		{"an upper half", big(0, 1, 1, 1) + last, "", api.ErrForm},
		{"17 spans", pairs(many(17)...) + last, "", api.ErrBig},
	}
	for _, h := range heads {
		for _, r := range spans {
			for _, k := range structures() {
				s := h.change(source{reserve: r.part, structure: k.part, texts: k.texts}.turned())
				e := agrees(t, s)
				want := h.e
				if want == api.OK {
					want = r.e
				}
				if want == api.OK {
					want = k.e
				}
				if e != want {
					t.Errorf("header: %s, spans: %s, structure: %s: %v, not %v", h.what, r.what, k.what, e, want)
				}
			}
		}
	}
}

func TestDe2Limits(t *testing.T) {
	for _, n := range []int{15, 16, 17} {
		want, e := api.Tree{Reserve: many(n)}, api.OK
		if n > 16 {
			want, e = api.Tree{}, api.ErrBig
		}
		decodes(t, "spans", source{reserve: pairs(many(n)...) + last, structure: begin("") + end + stop}.bytes(), want, e)
	}
	for levels := 7; levels < 10; levels++ {
		var want api.Tree
		e := api.ErrDepth
		if levels <= 8 {
			e = api.OK
			for range levels - 1 {
				want.Root = api.Node{Name: "a", Kids: []api.Node{want.Root}}
			}
		}
		s := strings.Repeat(begin("a"), levels-1) + begin("") + strings.Repeat(end, levels) + stop
		decodes(t, "levels", source{reserve: last, structure: s}.bytes(), want, e)
	}
	for nodes := 63; nodes < 66; nodes++ {
		var want api.Tree
		e := api.ErrBig
		s := begin("")
		for k := range nodes - 1 {
			s += begin("k"+strconv.Itoa(k)) + end
			want.Root.Kids = append(want.Root.Kids, api.Node{Name: "k" + strconv.Itoa(k)})
		}
		if nodes <= 64 {
			e = api.OK
		} else {
			want = api.Tree{}
		}
		decodes(t, "nodes", source{reserve: last, structure: s + end + stop}.bytes(), want, e)
	}
	for props := 255; props < 258; props++ {
		var want api.Tree
		e := api.ErrBig
		s := begin("")
		for k := range props {
			s += prop(k%3, big(k))
			want.Root.Props = append(want.Root.Props, api.Prop{Name: "abc"[k%3:], Value: big(k)})
		}
		if props <= 256 {
			e = api.OK
		} else {
			want = api.Tree{}
		}
		decodes(t, "properties", source{reserve: last, structure: s + end + stop, texts: "abc\x00"}.bytes(), want, e)
	}
	for tokens := 1023; tokens < 1026; tokens++ {
		e := api.OK
		if tokens > 1024 {
			e = api.ErrBig
		}
		s := begin("") + strings.Repeat(nop, tokens-3) + end + stop
		decodes(t, "tokens", source{reserve: last, structure: s}.bytes(), api.Tree{}, e)
	}
	for total := 16380; total < 16390; total++ {
		want, e := api.Tree{Root: api.Node{Props: []api.Prop{{Name: "x", Value: strings.Repeat("v", 16284)}}}}, api.OK
		if total > 16384 {
			want, e = api.Tree{}, api.ErrBig
		}
		x := source{reserve: last, structure: begin("") + prop(0, strings.Repeat("v", 16284)) + end + stop, texts: "x\x00"}
		x.texts += strings.Repeat("y", total-len(x.bytes()))
		decodes(t, "bytes", x.bytes(), want, e)
	}
}

// Each byte of a right tree is any other one.
func TestDe3BrokenBytes(t *testing.T) {
	x, _ := ordinary()
	found := map[api.Errno]int{}
	for _, s := range []string{x.bytes(), x.turned()} {
		for at := range len(s) {
			for c := range 256 {
				found[agrees(t, s[:at]+string([]byte{byte(c)})+s[at+1:])]++
			}
		}
		for at := 0; at+4 <= len(s); at += 4 {
			for _, n := range []int{0, 1, 2, 3, 4, 9, 16, 40, 44, 48, 56, 64, 72, 80, len(s) - 4, len(s), len(s) + 1, 16384, 16385, 1 << 31, api.Max32 - 15, api.Max32} {
				found[agrees(t, s[:at]+big(n)+s[at+4:])]++
			}
		}
	}
	for _, e := range []api.Errno{api.OK, api.ErrShort, api.ErrForm, api.ErrBig} {
		if found[e] < 100 {
			t.Errorf("%d times %v", found[e], e)
		}
	}
}

// Several words of a right tree are others.
func TestDe3BrokenWords(t *testing.T) {
	x, _ := ordinary()
	right := x.bytes()
	deep := source{reserve: last, structure: strings.Repeat(begin("a"), 8) + strings.Repeat(end, 8) + stop}.bytes()
	r := rand.New(rand.NewPCG(14, 1))
	words := []string{begin(""), begin("kid"), prop(0, ""), prop(1, "abc"), end, end, nop, stop, last, big(0, 1, 0, 1), big(0), big(4), big(1 << 31)}
	found := map[api.Errno]int{}
	for range 60000 {
		s := right
		if r.IntN(3) == 0 {
			s = deep
		}
		for range 1 + r.IntN(3) {
			at := 40 + 4*r.IntN(len(s)/4-10)
			word := words[r.IntN(len(words))]
			s = s[:at] + word + s[min(len(s), at+len(word)*r.IntN(2)):]
		}
		// The structure is what is between the reserved spans and the strings, wherever these are now.
		if r.IntN(4) > 0 {
			size := int(binary.BigEndian.Uint32([]byte(s[36:40])))
			texts := int(binary.BigEndian.Uint32([]byte(s[32:36])))
			more := len(s) - (40 + len(last) + size + texts)
			if s[:4] == right[:4] && more > -size && strings.HasPrefix(s[40:], last) {
				s = big(0xd00dfeed, len(s), 56, len(s)-texts, 40, 17, 16, 1, texts, size+more) + s[40:]
			}
		}
		found[agrees(t, s)]++
	}
	for _, e := range []api.Errno{api.OK, api.ErrShort, api.ErrForm, api.ErrDepth} {
		if found[e] < 100 {
			t.Errorf("%d times %v", found[e], e)
		}
	}
}

// Bytes of any kind, and such behind a right header.
func TestDe3AnyBytes(t *testing.T) {
	r := rand.New(rand.NewPCG(14, 2))
	bytes := func(n int) string {
		b := make([]byte, n)
		for k := range b {
			b[k] = byte(r.IntN(256) * r.IntN(2))
		}
		return string(b)
	}
	for n := range 400 {
		agrees(t, bytes(n))
		agrees(t, strings.Repeat("\x00", n))
		agrees(t, strings.Repeat("\xff", n))
		for at := -1; at <= n+1; at += 1 + n/10 {
			s := bytes(n)
			l, e := Reserve(s, at)
			want, wantErr := slowReserve(s, at)
			if !slices.Equal(l, want) || e != wantErr {
				t.Fatalf("Reserve(%q, %d) is %v, %v, not %v, %v", s, at, l, e, want, wantErr)
			}
		}
	}
	for range 20000 {
		n := r.IntN(300)
		places := [3]int{40 + 4*r.IntN(1+n/4), 40 + r.IntN(1+n), 40 + 8*r.IntN(1+n/8)}
		h := big(0xd00dfeed, 40+n, places[0], places[1], places[2], 17, 16, r.IntN(9), r.IntN(1+40+n-places[1]), r.IntN(1+40+n-places[0]))
		agrees(t, h+bytes(n))
		var words strings.Builder
		for words.Len() < n {
			words.WriteString(big([]int{0, 0, 0, 0, 1, 2, 2, 3, 4, 9, 9, 1 << 31}[r.IntN(12)]))
		}
		agrees(t, h+words.String())
	}
}

// What one call answers is not changed by what becomes of another call's answer, nor one list of an answer by another one.
func TestListsStayApart(t *testing.T) {
	x, want := ordinary()
	s := x.bytes()
	first, _ := Tree(s)
	first.Reserve[0].At = 1
	first.Root.Props[0].Name = "other"
	first.Root.Kids[0].Props[0].Value = "other"
	first.Root.Kids[1].Kids[0].Name = "other"
	first.Root.Kids[0] = api.Node{Name: "other"}
	decodes(t, "again", s, want, api.OK)
	second, _ := Tree(s)
	var lengthen func(n *api.Node)
	lengthen = func(n *api.Node) {
		_ = append(n.Props, api.Prop{Name: "other"}, api.Prop{Name: "other"})
		_ = append(n.Kids, api.Node{Name: "other"}, api.Node{Name: "other"})
		for k := range n.Kids {
			lengthen(&n.Kids[k])
		}
	}
	lengthen(&second.Root)
	_ = append(second.Reserve, api.Span{At: 5}, api.Span{At: 5})
	if !same(second, want) {
		t.Errorf("%+v", second)
	}
	l, _ := Reserve(x.reserve, 0)
	l[0] = api.Span{}
	reserves(t, x.reserve, 0, want.Reserve, api.OK)
}
