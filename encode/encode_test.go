package encode

import (
	"encoding/binary"
	"math"
	"math/rand/v2"
	"reflect"
	"slices"
	"strconv"
	"strings"
	"testing"

	"postilion/api"
	"postilion/decode"
	"postilion/tree"
)

// The tokens without names, as bytes.
const (
	end  = "\x00\x00\x00\x02"
	stop = "\x00\x00\x00\x09"
)

// last is the pair that ends reserved spans.
const last = "\x00\x00\x00\x00\x00\x00\x00\x00\x00\x00\x00\x00\x00\x00\x00\x00"

// big are the bytes of numbers of 32 bits.
func big(l ...int) string {
	var b []byte
	for _, n := range l {
		b = binary.BigEndian.AppendUint32(b, uint32(n))
	}
	return string(b)
}

// full are bytes, with bytes 0 behind them until they can be divided by four.
func full(s string) string {
	for len(s)%4 != 0 {
		s += "\x00"
	}
	return s
}

// begin is a TokBegin as bytes.
func begin(name string) string { return "\x00\x00\x00\x01" + full(name+"\x00") }

// prop is a TokProp as bytes.
func prop(place int, value string) string { return big(3, len(value), place) + full(value) }

// pairs are spans as bytes, without a pair that ends them.
func pairs(l ...api.Span) string {
	var b []byte
	for _, x := range l {
		b = binary.BigEndian.AppendUint64(b, uint64(x.At))
		b = binary.BigEndian.AppendUint64(b, uint64(x.N))
	}
	return string(b)
}

// many are so many spans, all of them different.
func many(n int) []api.Span {
	var l []api.Span
	for k := range n {
		l = append(l, api.Span{At: 100 * k, N: 1 + k})
	}
	return l
}

// chain is a node with so many levels.
func chain(levels int) api.Node {
	n := api.Node{Name: "a"}
	for range levels - 1 {
		n = api.Node{Name: "a", Kids: []api.Node{n}}
	}
	return n
}

// wide is a node with children, as many as make so many nodes in all.
func wide(nodes int) api.Node {
	var n api.Node
	for k := range nodes - 1 {
		n.Kids = append(n.Kids, api.Node{Name: "k" + strconv.Itoa(k)})
	}
	return n
}

// listed is a node with so many properties.
func listed(props int) api.Node {
	var n api.Node
	for k := range props {
		n.Props = append(n.Props, api.Prop{Name: "abc"[k%3:], Value: big(k)})
	}
	return n
}

// sized is a tree of which the bytes are so many (which can be divided by four, or stand for as many as can).
func sized(total int) api.Tree {
	// The header, the pair of zeros, a node without a name, the property's three numbers, its name, and TokStop.
	const rest = 40 + 16 + 8 + 12 + 4 + 4 + 4
	return api.Tree{Root: api.Node{Props: []api.Prop{{Name: "big", Value: strings.Repeat("v", total-rest)}}}}
}

// allowed tells whether a property may have a name; a node may have it too, or an empty one.
func allowed(name string) bool {
	return len(name) >= 1 && len(name) <= 31 && !strings.Contains(name, "\x00")
}

// measured are a tree's nodes, its properties and its depth; deep trees are not handed to it.
func measured(n api.Node) (nodes, props, depth int) {
	nodes, props = 1, len(n.Props)
	for _, kid := range n.Kids {
		a, b, c := measured(kid)
		nodes, props, depth = nodes+a, props+b, max(depth, c)
	}
	return nodes, props, depth + 1
}

// plain writes a tree as the chapters say it, part by part.
type plain struct {
	structure string
	texts     string
	places    map[string]int
	wrong     bool
}

// node writes a node.
func (p *plain) node(n api.Node) {
	p.wrong = p.wrong || n.Name != "" && !allowed(n.Name)
	p.structure += begin(n.Name)
	for _, x := range n.Props {
		p.wrong = p.wrong || !allowed(x.Name)
		place, known := p.places[x.Name]
		if !known {
			place = len(p.texts)
			p.places[x.Name] = place
			p.texts += x.Name + "\x00"
		}
		p.structure += prop(place, x.Value)
	}
	for _, kid := range n.Kids {
		p.node(kid)
	}
	p.structure += end
}

// slowReserve writes spans as the chapter says it.
func slowReserve(l []api.Span) (string, api.Errno) {
	if len(l) > 16 {
		return "", api.ErrBig
	}
	for _, x := range l {
		if x.At < 0 || x.N < 0 || x.At >= 1<<32 || x.N >= 1<<32 || x.At == 0 && x.N == 0 {
			return "", api.ErrArg
		}
	}
	return pairs(l...) + last, api.OK
}

// slowTree writes a tree as the chapter says it.
func slowTree(x api.Tree) (string, api.Errno) {
	nodes, props, depth := measured(x.Root)
	if depth > 8 {
		return "", api.ErrDepth
	}
	if nodes > 64 || props > 256 {
		return "", api.ErrBig
	}
	reserve, e := slowReserve(x.Reserve)
	if e != api.OK {
		return "", e
	}
	p := plain{places: map[string]int{}}
	p.node(x.Root)
	if p.wrong {
		return "", api.ErrArg
	}
	p.structure += stop
	at := 40 + len(reserve)
	body := full(reserve + p.structure + p.texts)
	switch {
	case 40+len(body) > 16384:
		return "", api.ErrBig
	case x.Boot < 0 || x.Boot >= 1<<32:
		return "", api.ErrArg
	}
	return big(0xd00dfeed, 40+len(body), at, at+len(p.structure), 40, 17, 16, x.Boot, len(p.texts), len(p.structure)) + body, api.OK
}

// same tells whether trees are the same, with what belongs to them.
func same(a, b api.Tree) bool {
	return tree.Same(a.Root, b.Root) && slices.Equal(a.Reserve, b.Reserve) && a.Boot == b.Boot
}

// tails are what may follow a tree's bytes.
func tails() []string {
	return []string{"", "\x00", "x", last, stop, end + stop, "reg\x00", big(0xd00dfeed, 72), strings.Repeat("\xff", 99), strings.Repeat("\x00", 20000)}
}

// agrees fails if Tree and Size do not answer what a plain writing does, or if the bytes are decoded as another tree.
func agrees(t *testing.T, x api.Tree) api.Errno {
	t.Helper()
	want, wantErr := slowTree(x)
	s, e := Tree(x)
	if e != wantErr || s != want {
		t.Fatalf("Tree(%+v) is %q, %v, not %q, %v", x, s, e, want, wantErr)
	}
	if n := Size(x); n != len(want) {
		t.Fatalf("Size(%+v) is %d, not %d", x, n, len(want))
	}
	if e != api.OK {
		return e
	}
	for _, tail := range tails() {
		if back, e := decode.Tree(s + tail); e != api.OK || !same(back, x) {
			t.Fatalf("%q with %q behind is %+v, %v, not %+v", s, tail, back, e, x)
		}
	}
	return api.OK
}

// encodes fails if Tree does not answer bytes, or an error and nothing else, or if the plain writing answers otherwise.
func encodes(t *testing.T, what string, x api.Tree, want string, wantErr api.Errno) {
	t.Helper()
	if s, e := Tree(x); s != want || e != wantErr {
		t.Errorf("%s: %q, %v, not %q, %v", what, s, e, want, wantErr)
	}
	if n := Size(x); n != len(want) {
		t.Errorf("%s: the size is %d, not %d", what, n, len(want))
	}
	if e := agrees(t, x); e != wantErr {
		t.Errorf("%s: the plain writing is %v, not %v", what, e, wantErr)
	}
}

// refuses fails if Tree does not answer an error, and nothing else.
func refuses(t *testing.T, what string, x api.Tree, want api.Errno) {
	t.Helper()
	encodes(t, what, x, "", want)
}

// takes fails if Tree does not answer bytes, of a number.
func takes(t *testing.T, what string, x api.Tree, size int) {
	t.Helper()
	if e := agrees(t, x); e != api.OK {
		t.Errorf("%s: %v", what, e)
	}
	if n := Size(x); n != size {
		t.Errorf("%s: the size is %d, not %d", what, n, size)
	}
}

// reserves fails if Reserve does not answer bytes, or an error and nothing else, or if what it answers is not decoded as the same spans.
func reserves(t *testing.T, l []api.Span, want string, wantErr api.Errno) {
	t.Helper()
	s, e := Reserve(l...)
	if s != want || e != wantErr {
		t.Errorf("Reserve(%v) is %q, %v, not %q, %v", l, s, e, want, wantErr)
	}
	if s, e := slowReserve(l); s != want || e != wantErr {
		t.Errorf("the plain writing of %v is %q, %v, not %q, %v", l, s, e, want, wantErr)
	}
	if e != api.OK {
		return
	}
	for _, tail := range tails() {
		if back, e := decode.Reserve("ahead"+s+tail, 5); e != api.OK || !slices.Equal(back, l) {
			t.Errorf("%q with %q behind is %v, %v, not %v", s, tail, back, e, l)
		}
	}
}

// ordinary is a tree, and its bytes.
func ordinary() (api.Tree, string) {
	x := api.Tree{
		Root: api.Node{
			Props: []api.Prop{{Name: "reg", Value: "ab"}, {Name: "on"}},
			Kids: []api.Node{
				{Name: "cpu@0", Props: []api.Prop{{Name: "eg", Value: "wxyz"}, {Name: "reg", Value: "12345"}}},
				{Name: "memory", Kids: []api.Node{{Name: "a"}}},
			},
		},
		Reserve: []api.Span{{At: 0x1000, N: 0x200}, {At: api.Max32, N: 0}},
		Boot:    3,
	}
	reserve := "\x00\x00\x00\x00\x00\x00\x10\x00\x00\x00\x00\x00\x00\x00\x02\x00" +
		"\x00\x00\x00\x00\xff\xff\xff\xff\x00\x00\x00\x00\x00\x00\x00\x00" + last
	structure := "\x00\x00\x00\x01\x00\x00\x00\x00" +
		"\x00\x00\x00\x03\x00\x00\x00\x02\x00\x00\x00\x00ab\x00\x00" +
		"\x00\x00\x00\x03\x00\x00\x00\x00\x00\x00\x00\x04" +
		"\x00\x00\x00\x01cpu@0\x00\x00\x00" +
		"\x00\x00\x00\x03\x00\x00\x00\x04\x00\x00\x00\x07wxyz" +
		"\x00\x00\x00\x03\x00\x00\x00\x05\x00\x00\x00\x0012345\x00\x00\x00" +
		end + "\x00\x00\x00\x01memory\x00\x00" + "\x00\x00\x00\x01a\x00\x00\x00" + end + end + end + stop
	texts := "reg\x00on\x00eg\x00"
	total := 40 + len(reserve) + len(structure) + len(texts) + 2
	top := big(0xd00dfeed, total, 40+len(reserve), total-2-len(texts), 40, 17, 16, 3, len(texts), len(structure))
	return x, top + reserve + structure + texts + "\x00\x00"
}

func TestExample(t *testing.T) {
	takes(t, "a root alone", api.Tree{}, 72)
	encodes(t, "a root alone", api.Tree{}, "\xd0\x0d\xfe\xed\x00\x00\x00\x48\x00\x00\x00\x38\x00\x00\x00\x48\x00\x00\x00\x28\x00\x00\x00\x11\x00\x00\x00\x10\x00\x00\x00\x00\x00\x00\x00\x00\x00\x00\x00\x10"+
		last+"\x00\x00\x00\x01\x00\x00\x00\x00\x00\x00\x00\x02\x00\x00\x00\x09", api.OK)
}

func TestEn1Tree(t *testing.T) {
	x, want := ordinary()
	encodes(t, "an ordinary tree", x, want, api.OK)
	// nil and empty lists are the same.
	empty := api.Tree{Root: api.Node{Props: []api.Prop{}, Kids: []api.Node{{Props: []api.Prop{}, Kids: []api.Node{}}}}, Reserve: []api.Span{}}
	encodes(t, "empty lists", empty, big(0xd00dfeed, 84, 56, 84, 40, 17, 16, 0, 0, 28)+last+begin("")+begin("")+end+end+stop, api.OK)
	// Names that a grammar would refuse are names here: of several children, of several properties, of the root.
	odd := api.Node{Name: "a/b ", Kids: []api.Node{{Name: "k"}, {Name: "k"}, {Name: "\xff\xfe"}, {Name: "/"}}, Props: []api.Prop{{Name: "p", Value: "1"}, {Name: "p", Value: "2"}, {Name: " /\xff"}}}
	encodes(t, "names", api.Tree{Root: odd},
		big(0xd00dfeed, 176, 56, 168, 40, 17, 16, 0, 6, 112)+last+
			begin("a/b ")+prop(0, "1")+prop(0, "2")+prop(2, "")+begin("k")+end+begin("k")+end+begin("\xff\xfe")+end+begin("/")+end+end+stop+
			"p\x00 /\xff\x00\x00\x00", api.OK)
}

// The strings are as long as they are, and only all bytes together can be divided by four.
func TestEn1Padding(t *testing.T) {
	for size := 1; size <= 31; size++ {
		name := strings.Repeat("n", size)
		x := api.Tree{Root: api.Node{Props: []api.Prop{{Name: name}}}}
		rest := (size + 4) / 4 * 4
		want := big(0xd00dfeed, 84+rest, 56, 84, 40, 17, 16, 0, size+1, 28) + last + begin("") + prop(0, "") + end + stop + name + strings.Repeat("\x00", rest-size)
		encodes(t, "a name of "+strconv.Itoa(size), x, want, api.OK)
		takes(t, "a name of "+strconv.Itoa(size), x, 84+rest)
	}
	for size := range 40 {
		x := api.Tree{Root: api.Node{Props: []api.Prop{{Name: "abc", Value: strings.Repeat("\x00\xffv", size)}}}}
		takes(t, "a value of "+strconv.Itoa(3*size), x, 88+(3*size+3)/4*4)
	}
}

func TestEn1Names(t *testing.T) {
	right := []string{"a", strings.Repeat("n", 31), strings.Repeat("\xff", 31), "a b", "\x01"}
	wrong := []string{strings.Repeat("n", 32), strings.Repeat("n", 300), "\x00", "a\x00", "\x00a", "a\x00b", strings.Repeat("n", 31) + "\x00"}
	for _, name := range append(right, "") {
		takes(t, "a root's name", api.Tree{Root: api.Node{Name: name}}, 64+len(full(name+"\x00"))+4)
		takes(t, "a child's name", api.Tree{Root: api.Node{Kids: []api.Node{{Name: "b"}, {Name: name}}}}, 88+len(full(name+"\x00"))+4)
	}
	for _, name := range wrong {
		refuses(t, "a root's name", api.Tree{Root: api.Node{Name: name}}, api.ErrArg)
		refuses(t, "a child's name", api.Tree{Root: api.Node{Kids: []api.Node{{Name: "b"}, {Name: name}}}}, api.ErrArg)
		deep := chain(8)
		bottom := &deep
		for len(bottom.Kids) > 0 {
			bottom = &bottom.Kids[0]
		}
		bottom.Name = name
		refuses(t, "a name at the eighth level", api.Tree{Root: deep}, api.ErrArg)
	}
	for _, name := range right {
		takes(t, "a property's name", api.Tree{Root: api.Node{Props: []api.Prop{{Name: name}}}}, 84+len(full(name+"\x00")))
	}
	for _, name := range append(wrong, "") {
		for _, l := range [][]api.Prop{{{Name: name}}, {{Name: "a"}, {Name: name}}, {{Name: name, Value: "v"}, {Name: "a"}}} {
			refuses(t, "a property's name", api.Tree{Root: api.Node{Props: l}}, api.ErrArg)
			refuses(t, "a property's name in a child", api.Tree{Root: api.Node{Kids: []api.Node{{}, {Props: l}}}}, api.ErrArg)
		}
	}
}

func TestEn1Boot(t *testing.T) {
	x, want := ordinary()
	for _, boot := range []int{0, 1, 0x01020304, 1 << 31, api.Max32 - 1, api.Max32} {
		x.Boot = boot
		encodes(t, "a number", x, want[:28]+big(boot)+want[32:], api.OK)
	}
	for _, boot := range []int{-1, math.MinInt, -1 << 31, -1 << 32, 1<<32 - 1<<40, 1 << 32, 1<<32 + 3, 1 << 62, math.MaxInt} {
		x.Boot = boot
		refuses(t, "a number", x, api.ErrArg)
	}
}

func TestEn1Reserve(t *testing.T) {
	reserves(t, nil, last, api.OK)
	reserves(t, []api.Span{}, last, api.OK)
	reserves(t, []api.Span{{At: 0x01020304, N: 5}}, "\x00\x00\x00\x00\x01\x02\x03\x04\x00\x00\x00\x00\x00\x00\x00\x05"+last, api.OK)
	for _, l := range [][]api.Span{
		{{At: 0x1000, N: 0x200}},
		// A span with one number 0 does not end them.
		{{At: 1}},
		{{N: 1}},
		{{At: 1}, {N: 1}, {At: 1}},
		{{At: api.Max32, N: api.Max32}, {At: 1 << 31, N: 1 << 31}},
		// They are in no order, and may be the same or overlap.
		{{At: 9, N: 9}, {At: 3, N: 100}, {At: 9, N: 9}},
		many(15),
		many(16),
	} {
		reserves(t, l, pairs(l...)+last, api.OK)
		encodes(t, "a tree", api.Tree{Reserve: l}, big(0xd00dfeed, 72+16*len(l), 56+16*len(l), 72+16*len(l), 40, 17, 16, 0, 0, 16)+pairs(l...)+last+begin("")+end+stop, api.OK)
	}
	for n := 17; n < 40; n++ {
		reserves(t, many(n), "", api.ErrBig)
		refuses(t, "spans", api.Tree{Reserve: many(n)}, api.ErrBig)
	}
}

// Each number that is not allowed, in each place, alone or beside another one.
func TestEn1ReserveNumbers(t *testing.T) {
	numbers := []int{math.MinInt, -1 << 32, -1 << 31, -1, 0, 1, 0x200, 1<<31 - 1, 1 << 31, api.Max32 - 1, api.Max32, api.Max32 + 1, 1<<32 + 1, 1 << 33, 1 << 62, math.MaxInt}
	found := map[api.Errno]int{}
	for _, at := range numbers {
		for _, n := range numbers {
			x := api.Span{At: at, N: n}
			e := api.OK
			if at < 0 || n < 0 || at > 4294967295 || n > 4294967295 || at == 0 && n == 0 {
				e = api.ErrArg
			}
			for before := range 17 {
				for _, l := range [][]api.Span{append(many(before), x), append(append(many(before), x), many(15-min(before, 15))...)} {
					want, e := pairs(l...)+last, e
					if len(l) > 16 {
						e = api.ErrBig
					}
					if e != api.OK {
						want = ""
					}
					reserves(t, l, want, e)
					found[e]++
				}
			}
			if s, _ := Tree(api.Tree{Reserve: []api.Span{x}}); e == api.OK && s[40:56] != pairs(x) {
				t.Errorf("%v is %q", x, s)
			}
			if got := agrees(t, api.Tree{Reserve: []api.Span{x}}); got != e {
				t.Errorf("%v: %v, not %v", x, got, e)
			}
		}
	}
	if found[api.OK] < 1000 || found[api.ErrArg] < 1000 || found[api.ErrBig] < 100 {
		t.Error(found)
	}
	// Too many are told ahead of what is wrong with one.
	reserves(t, append([]api.Span{{At: -1}}, many(16)...), "", api.ErrBig)
	reserves(t, make([]api.Span, 17), "", api.ErrBig)
	reserves(t, make([]api.Span, 16), "", api.ErrArg)
}

func TestEn1Limits(t *testing.T) {
	for levels := 1; levels < 12; levels++ {
		e := api.OK
		if levels > 8 {
			e = api.ErrDepth
		}
		if got := agrees(t, api.Tree{Root: chain(levels)}); got != e {
			t.Errorf("%d levels: %v", levels, got)
		}
		// The deepest child need not be the first one.
		if got := agrees(t, api.Tree{Root: api.Node{Kids: []api.Node{chain(1), chain(max(1, levels-1)), chain(2)}}}); levels > 3 && got != e {
			t.Errorf("%d levels behind others: %v", levels, got)
		}
	}
	for nodes := 60; nodes < 70; nodes++ {
		e := api.OK
		if nodes > 64 {
			e = api.ErrBig
		}
		if got := agrees(t, api.Tree{Root: wide(nodes)}); got != e {
			t.Errorf("%d nodes: %v", nodes, got)
		}
	}
	for props := 250; props < 260; props++ {
		e := api.OK
		if props > 256 {
			e = api.ErrBig
		}
		if got := agrees(t, api.Tree{Root: listed(props)}); got != e {
			t.Errorf("%d properties: %v", props, got)
		}
		spread := api.Node{Kids: []api.Node{listed(100), {Kids: []api.Node{listed(props - 150)}}}, Props: listed(50).Props}
		if got := agrees(t, api.Tree{Root: spread}); got != e {
			t.Errorf("%d properties of several nodes: %v", props, got)
		}
	}
	both := wide(64)
	both.Props = listed(256).Props
	if e := agrees(t, api.Tree{Root: both, Reserve: many(16), Boot: api.Max32}); e != api.OK {
		t.Error(e)
	}
	// A great many levels, also such that have no end.
	deep := chain(1 << 16)
	round := make([]api.Node, 1)
	round[0] = api.Node{Name: "round", Kids: round}
	for _, n := range []api.Node{deep, round[0], {Kids: []api.Node{{}, deep}}} {
		if s, e := Tree(api.Tree{Root: n}); s != "" || e != api.ErrDepth || Size(api.Tree{Root: n}) != 0 {
			t.Errorf("%d bytes, %v", len(s), e)
		}
	}
}

func TestEn1Bytes(t *testing.T) {
	for total := 16360; total < 16400; total++ {
		x := sized(total)
		if total > 16384 {
			refuses(t, "bytes", x, api.ErrBig)
			continue
		}
		takes(t, "bytes", x, (total+3)/4*4)
		// Reserved spans and strings count too.
		x.Reserve = many(2)
		if rounded := (total + 3) / 4 * 4; rounded+32 > 16384 {
			refuses(t, "bytes with spans", x, api.ErrBig)
		} else {
			takes(t, "bytes with spans", x, rounded+32)
		}
	}
	for names := range 31 {
		x := sized(16384)
		x.Root.Props[0].Name = strings.Repeat("n", 1+names)
		if names < 3 {
			takes(t, "a name", x, 16384)
			continue
		}
		refuses(t, "a name", x, api.ErrBig)
	}
	x := sized(16384)
	x.Root.Props[0].Value = strings.Repeat("v", 1<<22)
	refuses(t, "a great value", x, api.ErrBig)
	// A name that is there again adds nothing to the strings.
	var again api.Tree
	for range 200 {
		again.Root.Props = append(again.Root.Props, api.Prop{Name: strings.Repeat("n", 31), Value: strings.Repeat("v", 64)})
	}
	takes(t, "a name again", again, 40+16+8+200*76+8+32)
	for k := range 200 {
		again.Root.Props[k].Name = strconv.Itoa(100+k) + strings.Repeat("n", 28)
	}
	refuses(t, "other names", again, api.ErrBig)
}

// fault is what may be wrong with a piece of a tree, and the error by which it is told.
type fault struct {
	what string
	add  func(x *api.Tree)
	e    api.Errno
}

// faults are those of each rank: what is told first is first.
func faults() [][]fault {
	right := fault{"right", func(x *api.Tree) {}, api.OK}
	kid := func(n api.Node) func(x *api.Tree) {
		return func(x *api.Tree) { x.Root.Kids = append(x.Root.Kids, n) }
	}
	return [][]fault{
		{right, {"nine levels", kid(chain(8)), api.ErrDepth}, {"eight levels", kid(chain(7)), api.OK}},
		{right, {"66 nodes", kid(wide(65)), api.ErrBig}, {"257 properties", kid(listed(257)), api.ErrBig}},
		{
			right,
			{"16 spans", func(x *api.Tree) { x.Reserve = many(16) }, api.OK},
			{"17 spans", func(x *api.Tree) { x.Reserve = make([]api.Span, 17) }, api.ErrBig},
			{"a span of zeros", func(x *api.Tree) { x.Reserve = []api.Span{{At: 1}, {}} }, api.ErrArg},
			{"a negative span", func(x *api.Tree) { x.Reserve = []api.Span{{At: 5, N: -1}} }, api.ErrArg},
			{"a great span", func(x *api.Tree) { x.Reserve = []api.Span{{At: 1 << 32, N: 1}} }, api.ErrArg},
		},
		{
			right,
			{"a node's name", kid(api.Node{Name: strings.Repeat("n", 32)}), api.ErrArg},
			{"a property's name", kid(api.Node{Props: []api.Prop{{Name: ""}}}), api.ErrArg},
			{"a name with a byte 0", kid(api.Node{Props: []api.Prop{{Name: "a\x00"}}}), api.ErrArg},
		},
		{right, {"20000 bytes", kid(api.Node{Props: []api.Prop{{Name: "v", Value: strings.Repeat("v", 20000)}}}), api.ErrBig}},
		{
			right,
			{"the greatest number", func(x *api.Tree) { x.Boot = api.Max32 }, api.OK},
			{"a negative number", func(x *api.Tree) { x.Boot = -1 }, api.ErrArg},
			{"a great number", func(x *api.Tree) { x.Boot = 1 << 32 }, api.ErrArg},
		},
	}
}

// Of several errors that is told which comes first: of the depth, of the rest of what fits, of the spans, of the tokens, of all bytes, and of the number.
func TestEn1OrderOfErrors(t *testing.T) {
	ranks := faults()
	var all func(rank int, said string, adds []func(x *api.Tree), want api.Errno)
	found := 0
	all = func(rank int, said string, adds []func(x *api.Tree), want api.Errno) {
		if rank == len(ranks) {
			// What is told does not hang on the order in which the pieces are in the tree.
			for _, backward := range []bool{false, true} {
				var x api.Tree
				for k := range adds {
					if backward {
						k = len(adds) - 1 - k
					}
					adds[k](&x)
				}
				if s, e := Tree(x); e != want || (s == "") != (e != api.OK) {
					t.Errorf("%s: %d bytes, %v, not %v", said, len(s), e, want)
				}
				if e := agrees(t, x); e != want {
					t.Errorf("%s: the plain writing is %v, not %v", said, e, want)
				}
			}
			found++
			return
		}
		for _, f := range ranks[rank] {
			e := want
			if e == api.OK {
				e = f.e
			}
			all(rank+1, said+", "+f.what, append(slices.Clip(adds), f.add), e)
		}
	}
	all(0, "a tree", nil, api.OK)
	if found != 3*3*6*4*2*4 {
		t.Error(found)
	}
}

// random are trees of any kind, right ones and wrong ones.
type random struct {
	*rand.Rand
	wrong int // one of so many names is wrong
}

// name is a name for a node or a property.
func (r random) name() string {
	if r.IntN(r.wrong) == 0 {
		return []string{"", "a\x00", "\x00", strings.Repeat("n", 32)}[r.IntN(4)]
	}
	names := []string{"a", "b", "reg", "eg", "g", "compatible", "mem@0", strings.Repeat("n", 31), "\xff", "x y"}
	if r.IntN(3) == 0 {
		return "p" + strconv.Itoa(r.IntN(50))
	}
	return names[r.IntN(len(names))]
}

// node is a node with up to so many levels.
func (r random) node(levels int) api.Node {
	n := api.Node{Name: r.name()}
	for range r.IntN(4) {
		v := make([]byte, r.IntN(40)*r.IntN(2))
		for k := range v {
			v[k] = byte(r.IntN(256) * r.IntN(2))
		}
		n.Props = append(n.Props, api.Prop{Name: r.name(), Value: string(v)})
	}
	if levels > 1 {
		for range r.IntN(4) {
			n.Kids = append(n.Kids, r.node(levels-1))
		}
	}
	return n
}

// number is a number, mostly of 32 bits.
func (r random) number() int {
	if r.IntN(r.wrong) == 0 {
		return []int{-1, 1 << 32, math.MinInt, math.MaxInt}[r.IntN(4)]
	}
	return []int{0, 1, r.IntN(1 << 16), r.IntN(1 << 32), api.Max32}[r.IntN(5)]
}

// tree is a tree with what belongs to it.
func (r random) tree() api.Tree {
	x := api.Tree{Root: r.node(1 + r.IntN(6)), Boot: r.number()}
	if r.IntN(r.wrong) == 0 {
		x.Root = api.Node{Kids: []api.Node{x.Root, chain(r.IntN(10)), wide(r.IntN(70))}}
	}
	for range r.IntN(4) * r.IntN(7) {
		x.Reserve = append(x.Reserve, api.Span{At: r.number(), N: 1 + r.number()/2})
	}
	return x
}

// What is encoded is decoded unchanged (agrees does that), and so is what was decoded and encoded.
func TestEn2Random(t *testing.T) {
	for _, wrong := range []int{1 << 40, 100, 4} {
		r := random{rand.New(rand.NewPCG(15, uint64(wrong))), wrong}
		found := map[api.Errno]int{}
		for range 3000 {
			x := r.tree()
			found[agrees(t, x)]++
			s, e := Tree(x)
			if e != api.OK {
				continue
			}
			back, _ := decode.Tree(s)
			again, e := Tree(back)
			if again != s || e != api.OK {
				t.Fatalf("%q is encoded again as %q, %v", s, again, e)
			}
		}
		if wrong > 100 && found[api.OK] < 1500 || wrong == 100 && (found[api.OK] < 300 || found[api.ErrArg] < 300) || wrong == 4 && found[api.ErrArg] < 1000 {
			t.Errorf("one of %d wrong: %v", wrong, found)
		}
	}
}

// foreign are bytes of trees as another writer puts them: in another order, with tokens that say nothing, strings that others end, and more.
func foreign() []string {
	structure := begin("") + "\x00\x00\x00\x04" + prop(0, "ab") + prop(4, "") + begin("cpu@0") + prop(1, "wxyz") + "\x00\x00\x00\x04" + end + begin("memory") + end + end + stop
	texts := "reg\x00on\x00"
	// The reserved spans begin where a number of bytes ends that can be divided by eight.
	behind := strings.Repeat("\xff", 16-(len(structure)+len(texts))%8)
	var l []string
	for n := range 17 {
		reserve := pairs(many(n)...) + last
		at := 40 + len(reserve)
		l = append(l,
			big(0xd00dfeed, at+len(structure)+len(texts), at, at+len(structure), 40, 17, 16, n, len(texts), len(structure))+reserve+structure+texts,
			big(0xd00dfeed, 40+len(structure+texts+behind+reserve), 40, 40+len(structure), 40+len(structure+texts+behind), 18, 17, api.Max32, len(texts), len(structure))+structure+texts+behind+reserve,
		)
	}
	return l
}

func TestEn2Foreign(t *testing.T) {
	for _, s := range foreign() {
		x, e := decode.Tree(s)
		if e != api.OK || len(x.Root.Props) != 2 || len(x.Root.Kids) != 2 {
			t.Fatalf("%q: %+v, %v", s, x, e)
		}
		if e := agrees(t, x); e != api.OK {
			t.Errorf("%q is decoded, but not encoded: %v", s, e)
		}
		again, _ := Tree(x)
		back, e := decode.Tree(again)
		if e != api.OK || !reflect.DeepEqual(back, x) {
			t.Errorf("%q is encoded and decoded as %+v, %v, not %+v", s, back, e, x)
		}
	}
}

// Any bytes that are a tree's, as far as changes of a tree's bytes find them.
func TestEn2Broken(t *testing.T) {
	_, s := ordinary()
	found := 0
	for at := range len(s) {
		for c := range 256 {
			x, e := decode.Tree(s[:at] + string([]byte{byte(c)}) + s[at+1:])
			if e != api.OK {
				continue
			}
			found++
			if e := agrees(t, x); e != api.OK {
				t.Fatalf("with a byte %d at %d: %v", c, at, e)
			}
		}
	}
	if found < 1000 {
		t.Error(found)
	}
}

// A tree of as many bytes as there may be, of which parts have bytes in common, has more when it is encoded: there, the limit of the bytes counts.
func TestEn2SharedParts(t *testing.T) {
	texts := "ab\x00"
	head := begin("")
	for k := range 200 {
		head += prop(k%2, "v")
	}
	tail := head + prop(0, strings.Repeat("v", 16384-56-len(head)-24)) + end + stop
	s := big(0xd00dfeed, 56+len(tail)+len(texts)+1, 56, 56+len(tail), 40, 17, 16, 0, len(texts), len(tail)) + last + tail + texts + "\x00"
	x, e := decode.Tree(s)
	if e != api.OK || len(s) != 16384 {
		t.Fatalf("%d bytes, %v", len(s), e)
	}
	// "b" is the end of "ab" there; here it is a string of its own, which needs two bytes more than the one that is left.
	refuses(t, "shared strings", x, api.ErrBig)
	x.Root.Props[200].Value = x.Root.Props[200].Value[4:]
	takes(t, "shared strings", x, 16384)
}

// What is handed in is neither changed nor read behind its end.
func TestArgumentsStay(t *testing.T) {
	x, want := ordinary()
	y, _ := ordinary()
	spans := append(slices.Clone(x.Reserve), api.Span{At: 7, N: 7}, api.Span{At: -1})
	props := append(slices.Clone(x.Root.Props), api.Prop{Name: "more"})
	kids := append(slices.Clone(x.Root.Kids), api.Node{Name: "more"})
	x.Reserve, x.Root.Props, x.Root.Kids = spans[:2], props[:2], kids[:2]
	encodes(t, "lists with more behind them", x, want, api.OK)
	if !same(x, y) || spans[2] != (api.Span{At: 7, N: 7}) || spans[3] != (api.Span{At: -1}) || props[2].Name != "more" || kids[2].Name != "more" {
		t.Errorf("%+v, %v, %v, %v", x, spans, props, kids)
	}
	reserves(t, spans[:2], pairs(spans[:2]...)+last, api.OK)
	if spans[0] != y.Reserve[0] || spans[1] != y.Reserve[1] || spans[2] != (api.Span{At: 7, N: 7}) {
		t.Error(spans)
	}
	// Nothing is kept: a refusal and another tree in between change nothing.
	refuses(t, "a number", api.Tree{Boot: -1, Root: x.Root}, api.ErrArg)
	takes(t, "a root alone", api.Tree{}, 72)
	x.Root.Props[0].Value = "other"
	encodes(t, "the first tree again", y, want, api.OK)
}
