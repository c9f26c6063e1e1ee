package tree

import (
	"fmt"
	"math"
	"math/rand/v2"
	"reflect"
	"slices"
	"strconv"
	"strings"
	"testing"

	"postilion/api"
)

// The tokens without a value.
var (
	end = api.Token{Kind: api.TokEnd}
	nop = api.Token{Kind: api.TokNop}
)

// begin is a TokBegin.
func begin(name string) api.Token { return api.Token{Kind: api.TokBegin, Name: name} }

// prop is a TokProp.
func prop(name, value string) api.Token {
	return api.Token{Kind: api.TokProp, Name: name, Value: value}
}

// node is a node without properties.
func node(name string, kids ...api.Node) api.Node { return api.Node{Name: name, Kids: kids} }

// props are so many properties, all of them different.
func props(n int) []api.Prop {
	var l []api.Prop
	for k := range n {
		l = append(l, api.Prop{Name: "p" + strconv.Itoa(k), Value: strconv.Itoa(-k)})
	}
	return l
}

// chain is a tree of so many levels with one node each; that of level k has the name k, and k%4 properties.
func chain(levels int) api.Node {
	var kids []api.Node
	for k := levels; k > 0; k-- {
		kids = []api.Node{{Name: strconv.Itoa(k), Props: props(k % 4), Kids: kids}}
	}
	return kids[0]
}

// full is a tree of so many levels, in which each node above the last one has so many children.
func full(levels, width int) api.Node {
	n := api.Node{Name: "l" + strconv.Itoa(levels), Props: props(1)}
	if levels > 1 {
		for range width {
			n.Kids = append(n.Kids, full(levels-1, width))
		}
	}
	return n
}

// cut is a tree without what is deeper than so many levels.
func cut(n api.Node, levels int) api.Node {
	c := api.Node{Name: n.Name, Props: slices.Clone(n.Props)}
	if levels > 1 {
		for _, kid := range n.Kids {
			c.Kids = append(c.Kids, cut(kid, levels-1))
		}
	}
	return c
}

// text is a tree as a text: trees are the same if and only if their texts are.
func text(n api.Node) string {
	var b strings.Builder
	fmt.Fprintf(&b, "%q{", n.Name)
	for _, p := range n.Props {
		fmt.Fprintf(&b, "%q=%q;", p.Name, p.Value)
	}
	for _, kid := range n.Kids {
		b.WriteString(text(kid))
	}
	b.WriteString("}")
	return b.String()
}

// told are tokens as a text for a failure, which tells no more than the first ones.
func told(l []api.Token) string {
	var b strings.Builder
	for _, t := range l[:min(len(l), 100)] {
		fmt.Fprintf(&b, "%d%q%q ", t.Kind, t.Name, t.Value)
	}
	return fmt.Sprintf("%d tokens %s", len(l), b.String())
}

// plain are tokens without TokNop, and without the fields that a kind does not have.
func plain(l []api.Token) []api.Token {
	var p []api.Token
	for _, t := range l {
		switch t.Kind {
		case api.TokBegin:
			p = append(p, begin(t.Name))
		case api.TokEnd:
			p = append(p, end)
		case api.TokProp:
			p = append(p, t)
		}
	}
	return p
}

// slowOf makes a tree of tokens as the chapter says it, token by token, with the nodes that have not ended in a list.
func slowOf(l []api.Token) (api.Node, api.Errno) {
	var open, ended []api.Node
	nodes, props := 0, 0
	for _, t := range l {
		begins, ends, is := t.Kind == 1, t.Kind == 2, t.Kind == 3
		last := len(open) - 1
		switch {
		case t.Kind == 4:
			continue
		case !begins && !ends && !is, len(ended) > 0, !begins && last < 0, is && len(open[last].Kids) > 0:
			return api.Node{}, api.ErrForm
		case begins && last == 7:
			return api.Node{}, api.ErrDepth
		case begins && nodes == 64, is && props == 256:
			return api.Node{}, api.ErrBig
		case begins:
			nodes++
			open = append(open, api.Node{Name: t.Name})
		case is:
			props++
			open[last].Props = append(open[last].Props, api.Prop{Name: t.Name, Value: t.Value})
		case last == 0:
			ended, open = open, nil
		default:
			open[last-1].Kids = append(open[last-1].Kids, open[last])
			open = open[:last]
		}
	}
	if len(ended) == 0 {
		return api.Node{}, api.ErrForm
	}
	return ended[0], api.OK
}

// slowPaths are the paths of the nodes whose tokens are in a list.
func slowPaths(l []api.Token) []string {
	var paths, open []string
	for _, t := range l {
		switch {
		case t.Kind == api.TokBegin && len(open) == 0:
			open = append(open, "/")
		case t.Kind == api.TokBegin:
			path := open[len(open)-1]
			if path[len(path)-1] != '/' {
				path += "/"
			}
			open = append(open, path+t.Name)
		case t.Kind == api.TokEnd:
			open = open[:len(open)-1]
			continue
		default:
			continue
		}
		paths = append(paths, open[len(open)-1])
	}
	return paths
}

// becomes fails if Of does not answer a tree, or an error and nothing else, or if slowOf answers otherwise.
func becomes(t *testing.T, l []api.Token, want api.Node, wantErr api.Errno) {
	t.Helper()
	if n, e := Of(l); text(n) != text(want) || e != wantErr {
		t.Errorf("Of(%s) is %.200s, %v, not %.200s, %v", told(l), text(n), e, text(want), wantErr)
	}
	if n, e := slowOf(l); text(n) != text(want) || e != wantErr {
		t.Errorf("the plain reading of %s is %.200s, %v, not %.200s, %v", told(l), text(n), e, text(want), wantErr)
	}
}

// agrees fails if Of does not answer what slowOf does, if a list is changed, or if the tokens of its tree are others.
func agrees(t *testing.T, l []api.Token) api.Errno {
	t.Helper()
	before := slices.Clone(l)
	n, e := Of(l)
	want, wantErr := slowOf(l)
	if e != wantErr || text(n) != text(want) {
		t.Fatalf("Of(%s) is %.200s, %v, not %.200s, %v", told(l), text(n), e, text(want), wantErr)
	}
	if !slices.Equal(l, before) {
		t.Fatalf("Of changed %s", told(before))
	}
	if e != api.OK && !reflect.DeepEqual(n, api.Node{}) {
		t.Fatalf("Of(%s) is %.200s beside an error", told(l), text(n))
	}
	if e == api.OK && (!Fits(n) || !slices.Equal(Tokens(n), plain(l))) {
		t.Fatalf("the tokens of the tree of %s are %s", told(l), told(Tokens(n)))
	}
	return e
}

// counts fails if Count does not answer three numbers.
func counts(t *testing.T, n api.Node, nodes, props, depth int) {
	t.Helper()
	if a, b, c := Count(n); a != nodes || b != props || c != depth {
		t.Errorf("Count(%.100s) is %d, %d, %d, not %d, %d, %d", text(cut(n, 12)), a, b, c, nodes, props, depth)
	}
}

// walks fails if the paths of Walk are others.
func walks(t *testing.T, n api.Node, want ...string) {
	t.Helper()
	var got []string
	for _, x := range Walk(n) {
		got = append(got, x.Path)
	}
	if !slices.Equal(got, want) {
		t.Errorf("the paths of %s are %q, not %q", text(n), got, want)
	}
}

// ordinary is a tree of four nodes, and ordinaryTokens are its tokens.
func ordinary() api.Node {
	return api.Node{Props: []api.Prop{{Name: "a", Value: "1"}, {Name: "b"}}, Kids: []api.Node{
		{Name: "x", Kids: []api.Node{{Name: "y", Props: []api.Prop{{Name: "a", Value: "\x00\xff"}}}}},
		{Name: "z", Props: []api.Prop{{Name: "c", Value: "3"}}},
	}}
}

func ordinaryTokens() []api.Token {
	return []api.Token{begin(""), prop("a", "1"), prop("b", ""), begin("x"), begin("y"), prop("a", "\x00\xff"), end, end, begin("z"), prop("c", "3"), end, end}
}

// random is some tree; it is not always one that fits.
func random(r *rand.Rand, levels int) api.Node {
	names := []string{"", "a", "b", "/", "a/", "//b", "\x00", "é"}
	n := api.Node{Name: names[r.IntN(len(names))]}
	for range r.IntN(4) {
		n.Props = append(n.Props, api.Prop{Name: names[r.IntN(len(names))], Value: names[r.IntN(len(names))]})
	}
	if levels > 1 {
		for range r.IntN(4) {
			n.Kids = append(n.Kids, random(r, levels-1))
		}
	}
	return n
}

// randoms calls a function with many trees, of 1 to 11 levels.
func randoms(do func(r *rand.Rand, n api.Node)) {
	r := rand.New(rand.NewPCG(12, 3))
	for k := range 2000 {
		do(r, random(r, 1+k%11))
	}
}

func TestExample(t *testing.T) {
	becomes(t, []api.Token{begin(""), end}, api.Node{}, api.OK)
	if l := Tokens(api.Node{}); !slices.Equal(l, []api.Token{begin(""), end}) {
		t.Errorf("the tokens of a root without anything are %s", told(l))
	}
}

func TestTe1Tokens(t *testing.T) {
	for _, x := range []struct {
		n    api.Node
		want []api.Token
	}{
		{ordinary(), ordinaryTokens()},
		// The name of a root is told, too, and any bytes are a name.
		{node("root"), []api.Token{begin("root"), end}},
		{api.Node{Name: "\x00/é", Props: []api.Prop{{}, {Name: "\xff", Value: strings.Repeat("v", 40)}, {}}}, []api.Token{begin("\x00/é"), prop("", ""), prop("\xff", strings.Repeat("v", 40)), prop("", ""), end}},
		// The same names, again and again.
		{node("a", node("a", node("a")), node("a")), []api.Token{begin("a"), begin("a"), begin("a"), end, end, begin("a"), end, end}},
		{api.Node{Props: []api.Prop{}, Kids: []api.Node{}}, []api.Token{begin(""), end}},
	} {
		if l := Tokens(x.n); !slices.Equal(l, x.want) {
			t.Errorf("the tokens of %s are %s", text(x.n), told(l))
		}
	}
}

func TestTe1TokensOfLevels(t *testing.T) {
	for _, levels := range []int{1, 2, 7, 8, 9, 10, 11, 1 << 16} {
		var want []api.Token
		for k := 1; k <= min(levels, 8); k++ {
			want = append(want, begin(strconv.Itoa(k)))
			for _, p := range props(k % 4) {
				want = append(want, prop(p.Name, p.Value))
			}
		}
		want = append(want, slices.Repeat([]api.Token{end}, min(levels, 8))...)
		if l := Tokens(chain(levels)); !slices.Equal(l, want) {
			t.Errorf("the tokens of %d levels are %s", levels, told(l))
		}
	}
	for levels, many := range map[int]int{1: 3, 2: 9, 7: 381, 8: 765, 9: 765, 10: 765} {
		if l := Tokens(full(levels, 2)); len(l) != many {
			t.Errorf("%d levels have %d tokens", levels, len(l))
		}
	}
	// What is beside a node that is too deep is not omitted.
	n := node("7", chain(1), chain(3), node("b"))
	for range 6 {
		n = node("", n)
	}
	l := Tokens(n)
	if want := []api.Token{begin("7"), begin("1"), prop("p0", "0"), end, begin("1"), prop("p0", "0"), end, begin("b"), end, end}; len(l) != 22 || !slices.Equal(l[6:16], want) {
		t.Errorf("%s", told(l))
	}
}

func TestTe1TokensOfManyTrees(t *testing.T) {
	randoms(func(r *rand.Rand, n api.Node) {
		shown := text(n)
		l := Tokens(n)
		if !slices.Equal(l, Tokens(cut(n, 8))) || shown != text(n) {
			t.Fatalf("the tokens of %s are %s", text(n), told(l))
		}
		at := 0
		var follow func(n api.Node, level int)
		follow = func(n api.Node, level int) {
			want := []api.Token{begin(n.Name)}
			for _, p := range n.Props {
				want = append(want, prop(p.Name, p.Value))
			}
			if at+len(want) >= len(l) || !slices.Equal(l[at:at+len(want)], want) {
				t.Fatalf("the tokens of %s are %s", text(n), told(l))
			}
			at += len(want)
			for _, kid := range n.Kids {
				if level < 8 {
					follow(kid, level+1)
				}
			}
			if l[at] != end {
				t.Fatalf("the tokens of %s are %s", text(n), told(l))
			}
			at++
		}
		follow(n, 1)
		if at != len(l) {
			t.Fatalf("%s follow those of %s", told(l[at:]), text(n))
		}
	})
}

func TestTe1Count(t *testing.T) {
	counts(t, api.Node{}, 1, 0, 1)
	counts(t, node("a"), 1, 0, 1)
	counts(t, ordinary(), 4, 4, 3)
	counts(t, api.Node{Props: props(300)}, 1, 300, 1)
	counts(t, node("", slices.Repeat([]api.Node{chain(1)}, 500)...), 501, 500, 2)
	// The depth is that of the deepest child, wherever it is.
	for k, n := range []api.Node{
		node("", chain(3), chain(1), chain(2)),
		node("", chain(1), chain(3), chain(2)),
		node("", chain(1), chain(2), chain(3)),
	} {
		if a, b, c := Count(n); a != 7 || b != 1+3+6 || c != 4 {
			t.Errorf("case %d: %d, %d, %d", k, a, b, c)
		}
	}
}

func TestTe1CountOfLevels(t *testing.T) {
	sum := 0
	for levels := 1; levels <= 12; levels++ {
		if levels <= 9 {
			sum += levels % 4
		}
		counts(t, chain(levels), min(levels, 9), sum, min(levels, 9))
	}
	counts(t, chain(1<<16), 9, sum, 9)
	for levels, many := range map[int]int{7: 127, 8: 255, 9: 511, 10: 511, 11: 511} {
		counts(t, full(levels, 2), many, many, min(levels, 9))
	}
	// What is deeper than nine levels is not counted, but all that is beside it.
	counts(t, node("", chain(10), chain(8), chain(9), chain(2)), 8+8+8+2+1, 12+12+12+3, 9)
}

func TestTe1Fits(t *testing.T) {
	wide := func(n int) api.Node { return node("", slices.Repeat([]api.Node{node("a")}, n-1)...) }
	with := func(n api.Node, many int) api.Node {
		n.Props = props(many)
		return n
	}
	for k, x := range []struct {
		n    api.Node
		fits bool
	}{
		{api.Node{}, true},
		{ordinary(), true},
		{wide(63), true},
		{wide(64), true},
		{wide(65), false},
		{wide(1000), false},
		{with(api.Node{}, 255), true},
		{with(api.Node{}, 256), true},
		{with(api.Node{}, 257), false},
		{chain(7), true},
		{chain(8), true},
		{chain(9), false},
		{chain(10), false},
		{chain(1 << 16), false},
		{full(6, 2), true},
		{full(7, 2), false},
		// Nodes and properties of all levels are counted.
		{node("", slices.Repeat([]api.Node{chain(7)}, 9)...), true},
		{node("", append(slices.Repeat([]api.Node{chain(7)}, 9), node("a"))...), false},
		{node("", with(node("a"), 128), node("b", with(node("c"), 128))), true},
		{node("", with(node("a"), 128), node("b", with(node("c"), 129))), false},
		{with(wide(64), 256), true},
		{with(wide(64), 257), false},
		{with(wide(65), 256), false},
		{node("", chain(7), chain(7)), true},
		{node("", chain(1), chain(8)), false},
		// Names do not matter, nor how long a value is.
		{api.Node{Name: strings.Repeat("n", 1000), Props: []api.Prop{{Name: "", Value: strings.Repeat("v", 1<<20)}}, Kids: []api.Node{{}, {}}}, true},
	} {
		if Fits(x.n) != x.fits {
			t.Errorf("case %d: %v", k, !x.fits)
		}
	}
}

func TestTe1Same(t *testing.T) {
	trees := []api.Node{
		{},
		node("a"),
		node("A"),
		{Props: []api.Prop{{}}},
		{Props: []api.Prop{{}, {}}},
		{Props: []api.Prop{{Name: "a"}}},
		{Props: []api.Prop{{Value: "a"}}},
		{Props: []api.Prop{{Name: "a", Value: "1"}, {Name: "b", Value: "1"}}},
		{Props: []api.Prop{{Name: "b", Value: "1"}, {Name: "a", Value: "1"}}},
		{Props: []api.Prop{{Name: "a", Value: "1"}}},
		{Props: []api.Prop{{Name: "a", Value: "2"}}},
		{Props: []api.Prop{{Name: "a1", Value: ""}}},
		node("", node("")),
		node("", node(""), node("")),
		node("", node("", node(""))),
		node("", node("a"), node("b")),
		node("", node("b"), node("a")),
		node("", node("a")),
		node("", node("a", node("b"))),
		node("", api.Node{Name: "a", Props: []api.Prop{{Name: "p"}}}),
		node("", api.Node{Name: "a", Props: []api.Prop{{Name: "p", Value: "\x00"}}}),
		ordinary(),
		chain(8), chain(9), chain(10), chain(11),
	}
	for i, a := range trees {
		for k, b := range trees {
			if Same(a, b) != (i == k) {
				t.Errorf("%s and %s: %v", text(a), text(b), i != k)
			}
		}
	}
	if !Same(ordinary(), ordinary()) || !Same(full(5, 3), full(5, 3)) {
		t.Error("the same tree, made twice")
	}
	// A list of nothing is no list.
	empty := api.Node{Props: []api.Prop{}, Kids: []api.Node{{Name: "k", Props: props(3)[:0], Kids: []api.Node{}}}}
	if missing := node("", node("k")); !Same(empty, missing) || !Same(missing, empty) || !Same(api.Node{Kids: []api.Node{}}, api.Node{}) {
		t.Error("lists of nothing")
	}
}

// Same compares what is deeper than eight levels, too.
func TestTe1SameOfAllLevels(t *testing.T) {
	for _, levels := range []int{8, 9, 10, 100, 1 << 16} {
		if !Same(chain(levels), chain(levels)) || Same(chain(levels), chain(levels+1)) {
			t.Errorf("%d levels", levels)
		}
		for k, change := range []func(n *api.Node){
			func(n *api.Node) { n.Name = "other" },
			func(n *api.Node) { n.Props = props(9) },
			func(n *api.Node) { n.Kids = []api.Node{{}} },
		} {
			other := chain(levels)
			last := &other
			for len(last.Kids) > 0 {
				last = &last.Kids[0]
			}
			change(last)
			if Same(chain(levels), other) || Same(other, chain(levels)) {
				t.Errorf("%d levels, change %d", levels, k)
			}
		}
	}
}

func TestTe1SameOfManyTrees(t *testing.T) {
	var trees []api.Node
	randoms(func(r *rand.Rand, n api.Node) {
		if len(text(n)) < 60 && len(trees) < 400 {
			trees = append(trees, n)
		}
	})
	same := 0
	for _, a := range trees {
		for _, b := range trees {
			if Same(a, b) != (text(a) == text(b)) {
				t.Fatalf("%s and %s: %v", text(a), text(b), Same(a, b))
			}
			if Same(a, b) {
				same++
			}
		}
	}
	if len(trees) < 400 || same < len(trees)+100 {
		t.Errorf("%d trees, %d times the same", len(trees), same)
	}
}

// spoil changes everything in a tree, and all memory behind its lists.
func spoil(n *api.Node) {
	n.Name += "!"
	for k := range n.Props {
		n.Props[k] = api.Prop{Name: "spoiled", Value: "spoiled"}
	}
	for k := range n.Kids {
		spoil(&n.Kids[k])
	}
	behind := n.Props[len(n.Props):cap(n.Props)]
	for k := range behind {
		behind[k].Name = "spoiled"
	}
	kids := n.Kids[len(n.Kids):cap(n.Kids)]
	for k := range kids {
		kids[k].Name = "spoiled"
	}
}

func TestTe1Copy(t *testing.T) {
	randoms(func(r *rand.Rand, n api.Node) {
		shown := text(n)
		c, d := Copy(n), Copy(n)
		if text(c) != shown || text(n) != shown || !Same(c, n) {
			t.Fatalf("the copy of %s is %s", shown, text(c))
		}
		spoil(&c)
		if text(n) != shown || text(d) != shown {
			t.Fatalf("a copy of %s shares memory with it, or with another copy", shown)
		}
		spoil(&n)
		if text(d) != shown {
			t.Fatalf("%s shares memory with its copy", shown)
		}
	})
	for _, levels := range []int{1, 8, 9, 10, 12, 1 << 16} {
		if !Same(Copy(chain(levels)), chain(levels)) {
			t.Errorf("the copy of %d levels", levels)
		}
	}
}

// No two lists of a copy share memory, nor does one of them share what is behind a list of the tree.
func TestTe1CopyHasListsOfItsOwn(t *testing.T) {
	one, two := props(4), []api.Node{node("c"), node("d"), node("e")}
	n := api.Node{Props: one[:1], Kids: []api.Node{{Name: "a", Props: one[:0], Kids: two[:0]}, {Name: "b", Props: one[:2], Kids: two[:1]}, {Name: "b", Props: one[:2], Kids: two[:1]}}}
	shown := text(n)
	c := Copy(n)
	if text(c) != shown {
		t.Fatalf("the copy of %s is %s", shown, text(c))
	}
	for k := range c.Kids {
		kept := []string{text(c.Kids[0]), text(c.Kids[1]), text(c.Kids[2])}
		x := c.Kids[k]
		x.Props = append(x.Props, api.Prop{Name: "new"})
		x.Kids = append(x.Kids, node("new"))
		x.Props[0].Value = "new"
		x.Kids[0].Name = "new"
		for i := range c.Kids {
			if i != k && text(c.Kids[i]) != kept[i] {
				t.Errorf("child %d shares memory with child %d", i, k)
			}
		}
	}
	if text(n) != shown || !slices.Equal(one, props(4)) || text(node("", two...)) != text(node("", node("c"), node("d"), node("e"))) {
		t.Error("a copy shares memory with a tree")
	}
}

func TestTe1Walk(t *testing.T) {
	walks(t, api.Node{}, "/")
	walks(t, node("name"), "/")
	walks(t, node("/a/"), "/")
	walks(t, ordinary(), "/", "/x", "/x/y", "/z")
	walks(t, node("root", node("a", node("a", node("a"))), node("a")), "/", "/a", "/a/a", "/a/a/a", "/a")
	walks(t, node("", node("cpus", node("cpu@0"), node("cpu@1")), node("memory@80000000")), "/", "/cpus", "/cpus/cpu@0", "/cpus/cpu@1", "/memory@80000000")
	// A slash is only added where there is none, whatever names are.
	walks(t, node("", node("", node("", node("a")))), "/", "/", "/", "/a")
	walks(t, node("", node("a", node("", node("", node("b"))))), "/", "/a", "/a/", "/a/", "/a/b")
	walks(t, node("", node("a/", node("b"))), "/", "/a/", "/a/b")
	walks(t, node("", node("/", node("b"))), "/", "//", "//b")
	walks(t, node("", node("/a", node("/b"))), "/", "//a", "//a//b")
	walks(t, node("", node("a", node("b/c", node("d")))), "/", "/a", "/a/b/c", "/a/b/c/d")
	walks(t, node("", node("é\x00", node("\xff"))), "/", "/é\x00", "/é\x00/\xff")
	walks(t, api.Node{Props: props(3), Kids: []api.Node{}}, "/")
}

func TestTe1WalkOfLevels(t *testing.T) {
	paths := []string{"/", "/2", "/2/3", "/2/3/4", "/2/3/4/5", "/2/3/4/5/6", "/2/3/4/5/6/7", "/2/3/4/5/6/7/8"}
	for _, levels := range []int{1, 7, 8, 9, 10, 1 << 16} {
		walks(t, chain(levels), paths[:min(levels, 8)]...)
	}
	for levels, many := range map[int]int{1: 1, 2: 3, 7: 127, 8: 255, 9: 255, 10: 255} {
		if l := Walk(full(levels, 2)); len(l) != many {
			t.Errorf("%d levels have %d nodes", levels, len(l))
		}
	}
	// A node is returned with all that it has, also at the eighth level.
	l := Walk(chain(11))
	n := chain(11)
	for k, x := range l {
		if !Same(x.Node, n) {
			t.Errorf("node %d is %s", k, text(x.Node))
		}
		n = n.Kids[0]
	}
}

func TestTe1WalkOfManyTrees(t *testing.T) {
	randoms(func(r *rand.Rand, n api.Node) {
		shown := text(n)
		walks(t, n, slowPaths(Tokens(n))...)
		l := Walk(n)
		var follow func(n api.Node, level int)
		follow = func(n api.Node, level int) {
			if len(l) == 0 || text(l[0].Node) != text(n) {
				t.Fatalf("a node of %s is missing", shown)
			}
			l = l[1:]
			for _, kid := range n.Kids {
				if level < 8 {
					follow(kid, level+1)
				}
			}
		}
		follow(n, 1)
		if len(l) != 0 || text(n) != shown {
			t.Fatalf("%d spots follow those of %s", len(l), shown)
		}
	})
}

func TestTe2Of(t *testing.T) {
	becomes(t, ordinaryTokens(), ordinary(), api.OK)
	becomes(t, []api.Token{begin("root"), end}, node("root"), api.OK)
	becomes(t, []api.Token{begin(""), begin("a"), end, begin("a"), begin("b"), end, end, end}, node("", node("a"), node("a", node("b"))), api.OK)
	// Any names are taken, also twice.
	becomes(t, []api.Token{begin("/\x00"), prop("", ""), prop("", "\x00"), prop("", ""), begin(strings.Repeat("n", 40)), end, end}, api.Node{Name: "/\x00", Props: []api.Prop{{}, {Value: "\x00"}, {}}, Kids: []api.Node{node(strings.Repeat("n", 40))}}, api.OK)
	// Fields that a kind does not have say nothing.
	becomes(t, []api.Token{{Kind: api.TokBegin, Name: "a", Value: "v"}, {Kind: api.TokNop, Name: "n", Value: "v"}, {Kind: api.TokEnd, Name: "b", Value: "w"}}, node("a"), api.OK)
	// A property may follow a child that another node has.
	becomes(t, []api.Token{begin(""), begin("a"), end, begin("b"), prop("p", ""), end, end}, node("", node("a"), api.Node{Name: "b", Props: []api.Prop{{Name: "p"}}}), api.OK)
}

func TestTe2Nop(t *testing.T) {
	for k := range len(ordinaryTokens()) + 1 {
		becomes(t, slices.Insert(ordinaryTokens(), k, nop), ordinary(), api.OK)
		becomes(t, slices.Insert(ordinaryTokens(), k, slices.Repeat([]api.Token{nop}, 2000)...), ordinary(), api.OK)
	}
	becomes(t, []api.Token{nop}, api.Node{}, api.ErrForm)
	becomes(t, []api.Token{nop, end}, api.Node{}, api.ErrForm)
	becomes(t, []api.Token{begin(""), nop}, api.Node{}, api.ErrForm)
}

func TestTe2Form(t *testing.T) {
	a, p := begin("a"), prop("p", "v")
	for _, l := range [][]api.Token{
		nil,
		{},
		// One has not ended.
		{a}, {a, p}, {a, a, end}, {a, a, a, end, end},
		// Something precedes the first node.
		{end}, {p}, {end, a, end}, {p, a, end}, {nop, p, nop, a, end},
		// Something follows its end.
		{a, end, end}, {a, end, p}, {a, end, a}, {a, end, a, end}, {a, a, end, end, end}, {a, end, nop, end},
		// A property follows a child.
		{a, a, end, p, end}, {a, a, p, end, p, end}, {a, a, a, end, p, end, end}, {a, p, a, end, nop, p, end},
	} {
		becomes(t, l, api.Node{}, api.ErrForm)
	}
	for k := range len(ordinaryTokens()) {
		becomes(t, ordinaryTokens()[:k], api.Node{}, api.ErrForm)
	}
	// Other kinds are wrong wherever they are, a TokStop at the end too.
	for _, kind := range []int{0, 5, 6, 7, 8, api.TokStop, 10, -1, -4, 1<<32 + 1, 1<<32 + 4, math.MaxInt, math.MinInt} {
		for k := range len(ordinaryTokens()) + 1 {
			becomes(t, slices.Insert(ordinaryTokens(), k, api.Token{Kind: kind}), api.Node{}, api.ErrForm)
			becomes(t, slices.Insert(ordinaryTokens(), k, api.Token{Kind: kind, Name: "a", Value: "v"}), api.Node{}, api.ErrForm)
		}
	}
}

// many are tokens that are repeated.
func many(n int, l ...api.Token) []api.Token { return slices.Repeat(l, n) }

// join are lists of tokens, one after the other.
func join(l ...[]api.Token) []api.Token { return slices.Concat(l...) }

func TestTe2Limits(t *testing.T) {
	a, p := begin("a"), prop("p", "v")
	root := []api.Token{begin("")}
	ends := []api.Token{end}
	for k, x := range []struct {
		l []api.Token
		e api.Errno
	}{
		{join(many(8, a), many(8, end)), api.OK},
		{join(many(9, a), many(9, end)), api.ErrDepth},
		{many(9, a), api.ErrDepth},
		{many(8, a), api.ErrForm},
		{many(1<<16, a), api.ErrDepth},
		{join(many(1<<16, a), many(1<<16, end)), api.ErrDepth},
		{join(many(7, a), many(20, a, end), many(7, end)), api.OK},
		{join(many(8, a), many(3, end), many(3, a), many(8, end)), api.OK},
		{join(many(8, a), many(3, end), many(4, a), many(9, end)), api.ErrDepth},
		{join(root, many(63, a, end), ends), api.OK},
		{join(root, many(64, a, end), ends), api.ErrBig},
		{join(root, many(63, a, end), many(1, a)), api.ErrBig},
		{join(root, many(63, a, end)), api.ErrForm},
		{join(root, many(100000, a, end), ends), api.ErrBig},
		{join(root, many(9, a, a, a, a, a, a, a, end, end, end, end, end, end, end), ends), api.OK},
		{join(root, many(9, a, a, a, a, a, a, a, end, end, end, end, end, end, end), many(1, a)), api.ErrBig},
		{join(root, many(256, p), ends), api.OK},
		{join(root, many(257, p), ends), api.ErrBig},
		{join(root, many(257, p)), api.ErrBig},
		{join(root, many(256, p)), api.ErrForm},
		{join(root, many(63, a, p, p, p, p, end), ends), api.OK},
		{join(root, many(4, p), many(63, a, p, p, p, p, end), ends), api.OK},
		{join(root, many(5, p), many(63, a, p, p, p, p, end), ends), api.ErrBig},
		{join(root, many(256, p), many(63, a, end), ends), api.OK},
		{join(root, many(256, p, nop), many(63, nop, a, nop, end), ends, many(3000, nop)), api.OK},
	} {
		if e := agrees(t, x.l); e != x.e {
			t.Errorf("case %d: %v", k, e)
		}
	}
}

// Of two errors of a token the one is told that the chapter names first; of two tokens, that of the first one.
func TestTe2OrderOfErrors(t *testing.T) {
	a, p, wrong := begin("a"), prop("p", "v"), api.Token{Kind: api.TokStop}
	root := []api.Token{begin("")}
	full := join(root, many(55, a, end), many(7, a))
	allProps := join(root, many(256, p))
	if n, e := slowOf(join(full, many(8, end))); e != api.OK || len(Walk(n)) != 63 {
		t.Fatalf("%v", e)
	}
	for k, x := range []struct {
		l []api.Token
		e api.Errno
	}{
		// The 65th node is at the ninth level.
		{join(full, many(1, end, a, a)), api.ErrDepth},
		{join(full, many(1, end, a, end, a)), api.ErrBig},
		{join(full, many(1, a)), api.ErrDepth},
		// The 65th node, or the 257th property, follows the end of the first one.
		{join(root, many(63, a, end), many(1, end, a)), api.ErrForm},
		{join(allProps, many(1, end, p)), api.ErrForm},
		// The 257th property follows a child of its node, or of another one.
		{join(allProps, many(1, a, end, p)), api.ErrForm},
		{join(allProps, many(1, a, p)), api.ErrBig},
		// An error is told before what is wrong after it.
		{join(many(9, a), many(1, wrong)), api.ErrDepth},
		{join(many(8, a), many(1, wrong, a)), api.ErrForm},
		{join(root, many(64, a, end), many(1, wrong)), api.ErrBig},
		{join(root, many(63, a, end), many(1, p), many(1, a, end)), api.ErrForm},
		{join(allProps, many(1, p), many(9, a)), api.ErrBig},
		{join(allProps, many(8, a), many(1, p)), api.ErrDepth},
		{join(many(1, p), many(9, a)), api.ErrForm},
		{join(root, many(1, a, end, p), many(9, a)), api.ErrForm},
		{join(root, many(64, a, end), many(9, a)), api.ErrBig},
		{join(root, many(8, a), many(300, p)), api.ErrDepth},
		{join(root, many(300, p), many(8, a)), api.ErrBig},
		// What has not ended is told last.
		{join(root, many(64, a)), api.ErrDepth},
		{join(root, many(257, p)), api.ErrBig},
	} {
		if e := agrees(t, x.l); e != x.e {
			t.Errorf("case %d: %v", k, e)
		}
	}
}

// All lists of up to eight tokens; a token's name is its place, so that no two are the same.
func TestTe2AllShortLists(t *testing.T) {
	found := map[api.Errno]int{}
	var extend func(l []api.Token, most int)
	extend = func(l []api.Token, most int) {
		found[agrees(t, l)]++
		if len(l) == most {
			return
		}
		for _, kind := range []int{api.TokBegin, api.TokEnd, api.TokProp, api.TokNop, api.TokStop} {
			place := strconv.Itoa(len(l))
			extend(append(l[:len(l):len(l)], api.Token{Kind: kind, Name: place, Value: "v" + place}), most)
		}
	}
	extend(nil, 8)
	if found[api.OK] < 1000 || found[api.ErrForm] < 50000 {
		t.Errorf("%v", found)
	}
}

// likely is a list of tokens, drawn from kinds, of which few are wrong where they are.
func likely(r *rand.Rand, kinds []int, length int) []api.Token {
	var l []api.Token
	var hasKid []bool
	for len(l) < length {
		kind, open := kinds[r.IntN(len(kinds))], len(hasKid)
		wrong := open == 0 || kind == api.TokEnd && open == 1 || kind == api.TokBegin && open == 8 || kind == api.TokProp && hasKid[open-1]
		if wrong && len(l) > 0 && r.IntN(200) > 0 {
			continue
		}
		if len(l) == 0 && r.IntN(50) > 0 {
			kind = api.TokBegin
		}
		switch {
		case kind == api.TokBegin:
			if open > 0 {
				hasKid[open-1] = true
			}
			hasKid = append(hasKid, false)
		case kind == api.TokEnd && open > 0:
			hasKid = hasKid[:open-1]
		}
		l = append(l, api.Token{Kind: kind, Name: strconv.Itoa(len(l)), Value: "v"})
	}
	if r.IntN(8) > 0 {
		l = append(l, many(len(hasKid), end)...)
	}
	return l
}

func TestTe2ManyLists(t *testing.T) {
	r := rand.New(rand.NewPCG(2, 12))
	found := map[api.Errno]int{}
	for k := range 8000 {
		kinds := [][]int{{1, 2, 2, 3, 4}, {1, 1, 2, 3, 3, 4}, {1, 2}, {3, 3, 3, 3, 3, 3, 1, 1, 2, 4}, {1, 1, 1, 1, 2, 2, 2, 2, 3, 3}}[k%5]
		found[agrees(t, likely(r, kinds, 1+r.IntN(400)))]++
	}
	for _, e := range []api.Errno{api.OK, api.ErrForm, api.ErrDepth, api.ErrBig} {
		if found[e] < 200 {
			t.Errorf("%d times %v: %v", found[e], e, found)
		}
	}
}

// What is read of a list is its own: the list may be used again.
func TestTe2KeepsNothing(t *testing.T) {
	l := append(ordinaryTokens(), many(5, nop)...)
	behind := l[:len(ordinaryTokens())]
	n, e := Of(behind)
	m, f := Of(behind)
	if !slices.Equal(l, append(ordinaryTokens(), many(5, nop)...)) {
		t.Error("Of changed a list, or what is behind it")
	}
	for k := range l {
		l[k] = begin("other")
	}
	spoil(&m)
	if e != api.OK || f != api.OK || text(n) != text(ordinary()) {
		t.Errorf("%s, %v, %v", text(n), e, f)
	}
}

func TestTe3TreeOfItsTokens(t *testing.T) {
	found := map[bool]int{}
	randoms(func(r *rand.Rand, n api.Node) {
		found[Fits(n)]++
		m, e := Of(Tokens(n))
		if Fits(n) && (e != api.OK || !Same(m, n) || text(m) != text(n)) {
			t.Fatalf("%s becomes %s, %v", text(n), text(m), e)
		}
		nodes, props, _ := Count(cut(n, 8))
		if tooBig := nodes > 64 || props > 256; tooBig && (e != api.ErrBig || text(m) != text(api.Node{})) {
			t.Fatalf("%s becomes %s, %v", text(n), text(m), e)
		}
	})
	if found[true] < 200 || found[false] < 200 {
		t.Errorf("%v", found)
	}
	for _, n := range []api.Node{
		{},
		ordinary(),
		chain(8),
		full(6, 2),
		{Props: props(256)},
		node("", slices.Repeat([]api.Node{{Name: "a", Props: props(4)}}, 63)...),
		node("", slices.Repeat([]api.Node{chain(7)}, 9)...),
		{Props: []api.Prop{}, Kids: []api.Node{{Props: []api.Prop{}, Kids: []api.Node{}}}},
	} {
		if m, e := Of(Tokens(n)); !Fits(n) || e != api.OK || !Same(m, n) || text(m) != text(n) {
			t.Errorf("%s becomes %s, %v", text(n), text(m), e)
		}
	}
}

func TestTe3TokensOfItsTree(t *testing.T) {
	randoms(func(r *rand.Rand, n api.Node) {
		if !Fits(n) {
			return
		}
		var l []api.Token
		for _, x := range Tokens(n) {
			l = append(append(l, many(r.IntN(3), nop)...), x)
		}
		l = append(l, many(r.IntN(3), nop)...)
		m, e := Of(l)
		if e != api.OK || !slices.Equal(Tokens(m), plain(l)) {
			t.Fatalf("%s becomes %s, %v", told(l), text(m), e)
		}
	})
}
