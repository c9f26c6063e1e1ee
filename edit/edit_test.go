package edit

import (
	"math/rand/v2"
	"reflect"
	"slices"
	"strconv"
	"strings"
	"testing"

	"postilion/api"
	"postilion/path"
	"postilion/tree"
)

// node is a node with children.
func node(name string, kids ...api.Node) api.Node { return api.Node{Name: name, Kids: kids} }

// with is a node with properties: a name, a value, a name, and so on.
func with(n api.Node, l ...string) api.Node {
	for k := 0; k < len(l); k += 2 {
		n.Props = append(n.Props, api.Prop{Name: l[k], Value: l[k+1]})
	}
	return n
}

// chain is a tree of so many levels with one node each, of which that below k others has the number k as its name; the root's is empty.
func chain(levels int) api.Node {
	var kids []api.Node
	for k := levels - 1; k > 0; k-- {
		kids = []api.Node{node(strconv.Itoa(k), kids...)}
	}
	return node("", kids...)
}

// wide is a root with so many properties and children, which have numbers as their names.
func wide(props, kids int) api.Node {
	var n api.Node
	for k := range props {
		n = with(n, strconv.Itoa(k), "")
	}
	for k := range kids {
		n.Kids = append(n.Kids, node(strconv.Itoa(k)))
	}
	return n
}

// flat are the tokens of a tree of any depth.
func flat(n api.Node) []api.Token {
	l := []api.Token{{Kind: api.TokBegin, Name: n.Name}}
	for _, p := range n.Props {
		l = append(l, api.Token{Kind: api.TokProp, Name: p.Name, Value: p.Value})
	}
	for _, kid := range n.Kids {
		l = append(l, flat(kid)...)
	}
	return append(l, api.Token{Kind: api.TokEnd})
}

// inner are the positions of the tokens of a kind that a node has itself, of which the first token is at a position: its properties, the beginnings of its children, or its end.
func inner(l []api.Token, at, kind int) []int {
	var found []int
	level := 0
	for k := at; k == at || level > 0; k++ {
		depth := level
		switch l[k].Kind {
		case api.TokBegin:
			level++
		case api.TokEnd:
			level--
		}
		if k > at && depth == 1 && l[k].Kind == kind {
			found = append(found, k)
		}
	}
	return found
}

// first is the first of positions whose token has a name, or -1.
func first(l []api.Token, positions []int, name string) int {
	for _, k := range positions {
		if l[k].Name == name {
			return k
		}
	}
	return -1
}

// place is where the first token of the node of a path is, or -1.
func place(l []api.Token, p string) int {
	names, ok := path.Parts(p)
	if !ok {
		return -1
	}
	at := 0
	for _, name := range names {
		if at = first(l, inner(l, at, api.TokBegin), name); at < 0 {
			return -1
		}
	}
	return at
}

// taken tells whether a name is allowed for a property.
func taken(name string) bool {
	return len(name) > 0 && len(name) < 32 && !strings.Contains(name, "\x00")
}

// final is the last step of each edit: the tokens, unless their tree is too deep or too big.
func final(l []api.Token) ([]api.Token, api.Errno) {
	var nodes, props, level, depth int
	for _, t := range l {
		switch t.Kind {
		case api.TokBegin:
			nodes++
			level++
			depth = max(depth, level)
		case api.TokEnd:
			level--
		default:
			props++
		}
	}
	if depth > 8 {
		return nil, api.ErrDepth
	}
	if nodes > 64 || props > 256 {
		return nil, api.ErrBig
	}
	return l, api.OK
}

// plainSet is Set, done with tokens.
func plainSet(l []api.Token, p, name, value string) ([]api.Token, api.Errno) {
	at := place(l, p)
	if at < 0 {
		return nil, api.ErrNone
	}
	if !taken(name) {
		return nil, api.ErrArg
	}
	props := inner(l, at, api.TokProp)
	t := api.Token{Kind: api.TokProp, Name: name, Value: value}
	if k := first(l, props, name); k >= 0 {
		return final(slices.Replace(slices.Clone(l), k, k+1, t))
	}
	return final(slices.Insert(slices.Clone(l), at+len(props)+1, t))
}

// plainUnset is Unset, done with tokens.
func plainUnset(l []api.Token, p, name string) ([]api.Token, api.Errno) {
	at := place(l, p)
	if at < 0 {
		return nil, api.ErrNone
	}
	k := first(l, inner(l, at, api.TokProp), name)
	if k < 0 {
		return nil, api.ErrNone
	}
	return final(slices.Delete(slices.Clone(l), k, k+1))
}

// plainAdd is Add, done with tokens.
func plainAdd(l []api.Token, p, name string) ([]api.Token, api.Errno) {
	at := place(l, p)
	if at < 0 {
		return nil, api.ErrNone
	}
	if !taken(name) || strings.Contains(name, "/") {
		return nil, api.ErrArg
	}
	if first(l, inner(l, at, api.TokBegin), name) >= 0 {
		return nil, api.ErrExist
	}
	end := inner(l, at, api.TokEnd)[0]
	return final(slices.Insert(slices.Clone(l), end, api.Token{Kind: api.TokBegin, Name: name}, api.Token{Kind: api.TokEnd}))
}

// plainDrop is Drop, done with tokens.
func plainDrop(l []api.Token, p string) ([]api.Token, api.Errno) {
	at := place(l, p)
	if at < 0 {
		return nil, api.ErrNone
	}
	if p == "/" {
		return nil, api.ErrArg
	}
	return final(slices.Delete(slices.Clone(l), at, inner(l, at, api.TokEnd)[0]+1))
}

// plainMake is Make, done with tokens.
func plainMake(l []api.Token, p string) ([]api.Token, api.Errno) {
	names, ok := path.Parts(p)
	if !ok {
		return nil, api.ErrNone
	}
	above := "/"
	for _, name := range names {
		below := strings.TrimSuffix(above, "/") + "/" + name
		if place(l, below) < 0 {
			var e api.Errno
			if l, e = plainAdd(l, above, name); e != api.OK {
				return nil, e
			}
		}
		above = below
	}
	return final(l)
}

// agree fails unless an edit's answer is that of the plain edit.
func agree(t *testing.T, what string, n api.Node, got api.Node, e api.Errno, want []api.Token, wantErr api.Errno) {
	t.Helper()
	if e != wantErr {
		t.Fatalf("%s of %.2000v: error %d, not %d", what, n, e, wantErr)
	}
	if e != api.OK {
		nothing(t, what, got)
		return
	}
	if !slices.Equal(flat(got), want) {
		t.Fatalf("%s of %.2000v is %.2000v, not %.2000v", what, n, flat(got), want)
	}
}

// nothing fails if there is anything of a tree beside an error.
func nothing(t *testing.T, what string, n api.Node) {
	t.Helper()
	if !reflect.DeepEqual(n, api.Node{}) {
		t.Fatalf("%s: an error with the tree %.2000v", what, n)
	}
}

// is fails unless an answer is a tree; it is called with what an edit returns.
func is(t *testing.T, want api.Node) func(got api.Node, e api.Errno) {
	return func(got api.Node, e api.Errno) {
		t.Helper()
		if e != api.OK || !tree.Same(got, want) {
			t.Errorf("%.2000v, %d, not %.2000v", got, e, want)
		}
	}
}

// refused fails unless an answer is an error without a tree.
func refused(t *testing.T, want api.Errno) func(got api.Node, e api.Errno) {
	return func(got api.Node, e api.Errno) {
		t.Helper()
		if e != want {
			t.Errorf("%.2000v, %d, not %d", got, e, want)
		}
		if e != api.OK {
			nothing(t, "refused", got)
		}
	}
}

// fine fails unless an answer has no error.
func fine(t *testing.T) func(got api.Node, e api.Errno) api.Node {
	return func(got api.Node, e api.Errno) api.Node {
		t.Helper()
		if e != api.OK {
			t.Errorf("error %d", e)
		}
		return got
	}
}

// scribble changes everything that the lists of a tree contain.
func scribble(n api.Node) {
	for k := range n.Props {
		n.Props[k] = api.Prop{Name: "?", Value: "?"}
	}
	for k := range n.Kids {
		scribble(n.Kids[k])
		n.Kids[k] = node("?")
	}
	_ = append(n.Props, api.Prop{Name: "!", Value: "!"})
	_ = append(n.Kids, node("!"))
}

// roomy is a copy of a tree whose lists have elements behind their ends, all of which are added to rooms.
func roomy(n api.Node, rooms *[]api.Node) api.Node {
	c := api.Node{Name: n.Name, Props: slices.Clone(n.Props)}
	for _, kid := range n.Kids {
		c.Kids = append(c.Kids, roomy(kid, rooms))
	}
	c.Props = append(c.Props, api.Prop{Name: "room", Value: "room"})
	c.Kids = append(c.Kids, node("room"))
	*rooms = append(*rooms, c)
	c.Props = c.Props[:len(n.Props)]
	c.Kids = c.Kids[:len(n.Kids)]
	return c
}

// checkRooms fails if what is behind the ends of lists was changed.
func checkRooms(t *testing.T, rooms []api.Node) {
	t.Helper()
	for _, c := range rooms {
		p, k := c.Props[len(c.Props)-1], c.Kids[len(c.Kids)-1]
		if p != (api.Prop{Name: "room", Value: "room"}) || !tree.Same(k, node("room")) {
			t.Fatalf("behind a list: %v, %v", p, k)
		}
	}
}

// edits are some edits of a tree; each one is called with the tree.
func edits(p, name string) []func(n api.Node) (api.Node, api.Errno) {
	return []func(n api.Node) (api.Node, api.Errno){
		func(n api.Node) (api.Node, api.Errno) { return Set(n, p, name, "new") },
		func(n api.Node) (api.Node, api.Errno) { return Unset(n, p, name) },
		func(n api.Node) (api.Node, api.Errno) { return Add(n, p, name) },
		func(n api.Node) (api.Node, api.Errno) { return Drop(n, p) },
		func(n api.Node) (api.Node, api.Errno) { return Make(n, p) },
	}
}

// random is some tree whose names are taken from a list.
func random(r *rand.Rand, names []string, levels int) api.Node {
	n := api.Node{Name: names[r.IntN(len(names))]}
	for range r.IntN(4) {
		n = with(n, names[r.IntN(len(names))], strconv.Itoa(r.IntN(1000)))
	}
	if levels > 1 {
		for range r.IntN(4) {
			n.Kids = append(n.Kids, random(r, names, levels-1))
		}
	}
	return n
}

// small is a random tree that fits.
func small(r *rand.Rand, names []string) api.Node {
	for {
		if n := random(r, names, 1+r.IntN(8)); tree.Fits(n) {
			return n
		}
	}
}

// somePath is a path of a node of a tree, or another text.
func somePath(r *rand.Rand, n api.Node, names []string) string {
	switch r.IntN(8) {
	case 0:
		return []string{"", "a", "//", "/a/", "//a", "/a//b", "/a/a/a/a/a/a/a/a"}[r.IntN(7)]
	case 1, 2:
		var l []string
		for range r.IntN(9) {
			l = append(l, names[r.IntN(len(names))])
		}
		return path.Join(l...)
	}
	spots := tree.Walk(n)
	return spots[r.IntN(len(spots))].Path
}

// long is a name of so many bytes.
func long(n int) string { return strings.Repeat("n", n) }

func TestExample(t *testing.T) {
	got := fine(t)(Add(node("", node("a")), "/a", "b"))
	if b, ok := path.Find(got, "/a/b"); !ok || !tree.Same(b, node("b")) {
		t.Errorf("%v, %v", got, ok)
	}
	is(t, node("", node("a", node("b"))))(got, api.OK)
}

func TestEd1Set(t *testing.T) {
	n := with(node("r", with(node("a", node("b")), "x", "1"), node("a", node("c"))), "x", "1", "y", "2", "x", "3", "n", "")
	// The first property with the name gets the value; its place and the others stay.
	want := tree.Copy(n)
	want.Props[0].Value = "new"
	is(t, want)(Set(n, "/", "x", "new"))
	want = tree.Copy(n)
	want.Props[1].Value = ""
	is(t, want)(Set(n, "/", "y", ""))
	want = tree.Copy(n)
	want.Props[3].Value = "\x00\xff"
	is(t, want)(Set(n, "/", "n", "\x00\xff"))
	is(t, n)(Set(n, "/", "x", "1"))
	// Another one is added after all others.
	is(t, with(tree.Copy(n), "z", "v"))(Set(n, "/", "z", "v"))
	is(t, with(tree.Copy(n), "X", "v"))(Set(n, "/", "X", "v"))
	is(t, with(api.Node{}, "z", "v"))(Set(api.Node{}, "/", "z", "v"))
	// In a child, and below, in the first one with the name.
	want = tree.Copy(n)
	want.Kids[0].Props[0].Value = "v"
	is(t, want)(Set(n, "/a", "x", "v"))
	want = tree.Copy(n)
	want.Kids[0] = with(want.Kids[0], "y", "v")
	is(t, want)(Set(n, "/a", "y", "v"))
	want = tree.Copy(n)
	want.Kids[0].Kids[0] = with(want.Kids[0].Kids[0], "x", "v")
	is(t, want)(Set(n, "/a/b", "x", "v"))
	refused(t, api.ErrNone)(Set(n, "/a/c", "x", "v"))
}

func TestEd1SetNames(t *testing.T) {
	n := with(api.Node{}, "", "0", long(32), "1", "a\x00", "2")
	for _, name := range []string{"a", long(31), "a/b", "/", "é", "\xff", " ", "\x01", "#size-cells", "linux,initrd-start"} {
		is(t, with(tree.Copy(n), name, "v"))(Set(n, "/", name, "v"))
	}
	// A name that is not allowed is refused also where a property has it.
	for _, name := range []string{"", long(32), long(1 << 16), "\x00", "a\x00", "\x00a", "a\x00b", long(31) + "\x00"} {
		refused(t, api.ErrArg)(Set(n, "/", name, "v"))
		refused(t, api.ErrArg)(Set(node("", node("a")), "/a", name, "v"))
		refused(t, api.ErrNone)(Set(n, "/a", name, "v"))
		refused(t, api.ErrNone)(Set(n, "", name, "v"))
		// of a tree that is too deep, or too big, too
		refused(t, api.ErrArg)(Set(chain(9), "/1", name, "v"))
		refused(t, api.ErrArg)(Set(wide(256, 64), "/", name, "v"))
	}
	// The chapter sets no limit to a value.
	is(t, with(api.Node{}, "a", long(1<<20)))(Set(api.Node{}, "/", "a", long(1<<20)))
}

func TestEd1Unset(t *testing.T) {
	n := with(node("r", with(node("a", node("b")), "x", "1"), with(node("a"), "z", "5")), "x", "1", "y", "2", "x", "3", "", "4")
	want := tree.Copy(n)
	want.Props = slices.Delete(want.Props, 0, 1)
	is(t, want)(Unset(n, "/", "x"))
	want = tree.Copy(n)
	want.Props = slices.Delete(want.Props, 1, 2)
	is(t, want)(Unset(n, "/", "y"))
	want = tree.Copy(n)
	want.Props = want.Props[:3]
	is(t, want)(Unset(n, "/", ""))
	want = tree.Copy(n)
	want.Kids[0].Props = nil
	is(t, want)(Unset(n, "/a", "x"))
	for _, c := range []struct{ p, name string }{
		{"/", "z"}, {"/", "X"}, {"/", "xx"}, {"/", "a"}, {"/", "r"}, {"/", long(32)}, {"/", "x\x00"},
		{"/a", "y"}, {"/a", "z"}, {"/a", "b"}, {"/a", ""}, {"/a/b", "x"}, {"/b", "x"}, {"", "x"}, {"a", "x"}, {"//", "x"}, {"/a/", "x"},
	} {
		refused(t, api.ErrNone)(Unset(n, c.p, c.name))
	}
	// Names that Set would refuse can be taken away.
	for _, name := range []string{"", long(32), "a\x00b", "a/b"} {
		is(t, api.Node{})(Unset(with(api.Node{}, name, "v"), "/", name))
	}
}

func TestEd1Add(t *testing.T) {
	n := with(node("r", node("a", node("b")), node("c"), node("a")), "x", "1")
	is(t, with(node("r", node("a", node("b")), node("c"), node("a"), node("x")), "x", "1"))(Add(n, "/", "x"))
	is(t, with(node("r", node("a", node("b")), node("c"), node("a"), node("r")), "x", "1"))(Add(n, "/", "r"))
	is(t, with(node("r", node("a", node("b"), node("a")), node("c"), node("a")), "x", "1"))(Add(n, "/a", "a"))
	is(t, with(node("r", node("a", node("b", node("b"))), node("c"), node("a")), "x", "1"))(Add(n, "/a/b", "b"))
	is(t, with(node("r", node("a", node("b")), node("c", node("b")), node("a")), "x", "1"))(Add(n, "/c", "b"))
	is(t, node("", node("a")))(Add(api.Node{}, "/", "a"))
	for _, c := range []struct{ p, name string }{{"/", "a"}, {"/", "c"}, {"/a", "b"}} {
		refused(t, api.ErrExist)(Add(n, c.p, c.name))
	}
	for _, p := range []string{"/b", "/a/a", "/r", "/x", "", "a", "//", "/a/", "c", "/c/c"} {
		refused(t, api.ErrNone)(Add(n, p, "b"))
		refused(t, api.ErrNone)(Add(n, p, "a/b"))
	}
}

func TestEd1AddNames(t *testing.T) {
	n := node("", node(""), node(long(32)), node("a\x00"), node("a/b"), node("A"))
	for _, name := range []string{"a", long(31), "cpu@0", "é", "\xff", " ", "\x01", "\\", ".", ".."} {
		want := tree.Copy(n)
		want.Kids = append(want.Kids, node(name))
		is(t, want)(Add(n, "/", name))
	}
	// A name that is not allowed is refused also where a child has it.
	for _, name := range []string{"", long(32), long(1 << 16), "\x00", "a\x00", "\x00a", "/", "a/b", "/a", "a/", long(30) + "/", long(32) + "/"} {
		refused(t, api.ErrArg)(Add(n, "/", name))
		refused(t, api.ErrArg)(Add(n, "/A", name))
		refused(t, api.ErrNone)(Add(n, "/B", name))
		refused(t, api.ErrArg)(Add(chain(9), "/1", name))
		refused(t, api.ErrArg)(Add(wide(0, 64), "/", name))
	}
	// So is, by another error, one that a child has, of a tree that is too deep or too big.
	refused(t, api.ErrExist)(Add(chain(9), "/1", "2"))
	refused(t, api.ErrExist)(Add(wide(0, 64), "/", "63"))
	refused(t, api.ErrExist)(Add(wide(257, 1), "/", "0"))
}

func TestEd1Drop(t *testing.T) {
	n := with(node("r", node("a", node("b", node("c")), node("d")), node("e"), with(node("a"), "y", "2")), "x", "1")
	is(t, with(node("r", node("e"), with(node("a"), "y", "2")), "x", "1"))(Drop(n, "/a"))
	is(t, with(node("r", node("a", node("b", node("c")), node("d")), with(node("a"), "y", "2")), "x", "1"))(Drop(n, "/e"))
	is(t, with(node("r", node("a", node("d")), node("e"), with(node("a"), "y", "2")), "x", "1"))(Drop(n, "/a/b"))
	is(t, with(node("r", node("a", node("b", node("c"))), node("e"), with(node("a"), "y", "2")), "x", "1"))(Drop(n, "/a/d"))
	is(t, with(node("r", node("a", node("b"), node("d")), node("e"), with(node("a"), "y", "2")), "x", "1"))(Drop(n, "/a/b/c"))
	is(t, api.Node{})(Drop(node("", node("a")), "/a"))
	refused(t, api.ErrArg)(Drop(n, "/"))
	refused(t, api.ErrArg)(Drop(api.Node{}, "/"))
	refused(t, api.ErrArg)(Drop(chain(9), "/"))
	refused(t, api.ErrArg)(Drop(wide(257, 64), "/"))
	for _, p := range []string{"", "a", "//", "///", "/a/", "//a", "/r", "/x", "/b", "/a/e", "/a/a", "/e/a", "/a/b/d", "/a/b/c/c", "/A", "/q/b"} {
		refused(t, api.ErrNone)(Drop(n, p))
	}
	refused(t, api.ErrNone)(Drop(chain(9), "/2"))
	refused(t, api.ErrNone)(Drop(chain(9), "/1/2/3/4/5/6/7/8"))
	// Children whose names are not allowed in a path are not found.
	odd := node("", node(""), node("x/y"), node("x", node("z")))
	for _, p := range []string{"//", "/x/y", ""} {
		refused(t, api.ErrNone)(Drop(odd, p))
	}
	is(t, node("", node(""), node("x/y"), node("x")))(Drop(odd, "/x/z"))
}

func TestEd1Depth(t *testing.T) {
	n := chain(8)
	deepest := "/1/2/3/4/5/6/7"
	for k := range 7 {
		above := path.Join([]string{"1", "2", "3", "4", "5", "6"}[:k]...)
		if _, _, depth := tree.Count(fine(t)(Add(n, above, "x"))); depth != 8 {
			t.Errorf("depth %d with a child of %q", depth, above)
		}
	}
	refused(t, api.ErrDepth)(Add(n, deepest, "x"))
	refused(t, api.OK)(Set(n, deepest, "x", ""))
	for _, levels := range []int{9, 10, 100, 1 << 16} {
		n := chain(levels)
		refused(t, api.ErrDepth)(Set(n, "/", "x", ""))
		refused(t, api.ErrDepth)(Set(n, deepest, "x", ""))
		refused(t, api.ErrDepth)(Add(n, "/", "x"))
		refused(t, api.ErrDepth)(Add(n, deepest, "x"))
		refused(t, api.ErrExist)(Add(n, deepest, "8"))
		refused(t, api.ErrNone)(Set(n, deepest+"/8", "x", ""))
		refused(t, api.ErrNone)(Unset(n, "/", "x"))
		refused(t, api.ErrDepth)(Unset(with(n, "x", ""), "/", "x"))
		refused(t, api.ErrDepth)(Make(n, "/"))
		refused(t, api.ErrDepth)(Make(n, deepest))
		// What is changed is what counts: dropping makes a tree of eight levels.
		is(t, chain(7))(Drop(n, deepest))
		is(t, chain(1))(Drop(n, "/1"))
	}
	// A tree with two branches that are too deep stays too deep.
	two := node("", chain(9).Kids[0], node("b", chain(8).Kids[0]))
	refused(t, api.ErrDepth)(Drop(two, "/1"))
	refused(t, api.ErrDepth)(Drop(two, "/b"))
}

func TestEd1DepthAheadOfBig(t *testing.T) {
	big := wide(257, 70)
	big.Kids = append(big.Kids, node("deep", chain(9).Kids[0].Kids...))
	refused(t, api.ErrDepth)(Set(big, "/", "x", ""))
	refused(t, api.ErrDepth)(Set(big, "/", "1", "v"))
	refused(t, api.ErrDepth)(Unset(big, "/", "1"))
	refused(t, api.ErrDepth)(Add(big, "/", "x"))
	refused(t, api.ErrDepth)(Drop(big, "/8"))
	refused(t, api.ErrDepth)(Make(big, "/1"))
	refused(t, api.ErrDepth)(Make(big, "/x"))
	refused(t, api.ErrBig)(Drop(big, "/deep"))
}

func TestEd1Nodes(t *testing.T) {
	is(t, wide(0, 63))(Add(wide(0, 62), "/", "62"))
	refused(t, api.ErrBig)(Add(wide(0, 63), "/", "63"))
	refused(t, api.ErrBig)(Add(wide(0, 63), "/5", "63"))
	refused(t, api.OK)(Set(wide(0, 63), "/5", "x", ""))
	refused(t, api.ErrBig)(Set(wide(0, 64), "/5", "x", ""))
	refused(t, api.ErrBig)(Unset(wide(1, 64), "/", "0"))
	refused(t, api.ErrNone)(Unset(wide(1, 64), "/", "1"))
	is(t, wide(3, 63))(Drop(wide(3, 64), "/63"))
	refused(t, api.ErrBig)(Drop(wide(3, 65), "/64"))
	// A node is dropped with all that is below it.
	n := node("", wide(200, 60), with(wide(200, 60), "x", ""))
	n.Kids[0].Name, n.Kids[1].Name = "a", "b"
	want := node("", tree.Copy(n.Kids[1]))
	is(t, want)(Drop(n, "/a"))
}

func TestEd1Properties(t *testing.T) {
	is(t, wide(256, 0))(Set(wide(255, 0), "/", "255", ""))
	refused(t, api.ErrBig)(Set(wide(256, 0), "/", "256", ""))
	refused(t, api.ErrBig)(Set(wide(256, 1), "/0", "x", ""))
	refused(t, api.OK)(Set(wide(256, 0), "/", "5", "v"))
	refused(t, api.ErrBig)(Set(wide(257, 0), "/", "5", "v"))
	refused(t, api.OK)(Add(wide(256, 0), "/", "x"))
	refused(t, api.ErrBig)(Add(wide(257, 0), "/", "x"))
	refused(t, api.ErrBig)(Drop(wide(257, 1), "/0"))
	is(t, wide(256, 2))(Unset(wide(257, 2), "/", "256"))
	refused(t, api.ErrBig)(Unset(wide(258, 2), "/", "256"))
}

func TestEd1AnArgumentIsUnchanged(t *testing.T) {
	plain := with(node("r", with(node("a", with(node("b"), "p", "0")), "x", "1", "y", "2", "z", "3"), node("c"), node("d")), "x", "1", "y", "2", "z", "3")
	for _, p := range []string{"/", "/a", "/a/b", "/c", "/q", "/a/q/r", ""} {
		for _, name := range []string{"x", "y", "z", "p", "a", "b", "q", "a/b"} {
			for k, edit := range edits(p, name) {
				var rooms []api.Node
				n := roomy(plain, &rooms)
				got, e := edit(n)
				if !tree.Same(n, plain) {
					t.Fatalf("edit %d of %q, %q changed its argument to %v", k, p, name, n)
				}
				checkRooms(t, rooms)
				// What is done with an answer does nothing to the argument, nor the other way round.
				want := tree.Copy(got)
				kept := tree.Copy(n)
				again, _ := edit(n)
				scribble(again)
				if !tree.Same(n, kept) || !tree.Same(got, want) {
					t.Fatalf("edit %d of %q, %q: its answer (%d) shares lists", k, p, name, e)
				}
				checkRooms(t, rooms)
				scribble(n)
				if !tree.Same(got, want) {
					t.Fatalf("edit %d of %q, %q: its argument (%d) shares lists", k, p, name, e)
				}
			}
		}
	}
}

func TestEd1NodesThatShareLists(t *testing.T) {
	// Of nodes whose lists are the same memory, only the one of the path is changed, and their lists are apart in the answer.
	same := []api.Node{with(node("k"), "x", "1")}
	props := []api.Prop{{Name: "x", Value: "1"}, {Name: "y", Value: "2"}}
	n := api.Node{Props: props, Kids: []api.Node{{Name: "a", Props: props, Kids: same}, {Name: "b", Props: props, Kids: same}}}
	plain := tree.Copy(n)
	for _, p := range []string{"/", "/a", "/a/k", "/b", "/b/k"} {
		for _, name := range []string{"x", "q"} {
			for k, edit := range edits(p, name) {
				got, e := edit(n)
				want, wantErr := edit(plain)
				if e != wantErr || !tree.Same(got, want) || !tree.Same(n, plain) {
					t.Fatalf("edit %d of %q, %q is %v, %d, not %v, %d", k, p, name, got, e, want, wantErr)
				}
				for i := range got.Kids {
					other := tree.Copy(got)
					scribble(got.Kids[i])
					for j := range got.Kids {
						if j != i && !tree.Same(got.Kids[j], other.Kids[j]) {
							t.Fatalf("edit %d of %q, %q: the children share lists", k, p, name)
						}
					}
					got = other
				}
			}
		}
	}
}

func TestEd2Make(t *testing.T) {
	n := with(node("r", with(node("a", node("b", node("c"))), "x", "1"), node("d"), node("a", node("e"))), "y", "2")
	for _, p := range []string{"/", "/a", "/a/b", "/a/b/c", "/d"} {
		is(t, n)(Make(n, p))
	}
	want := tree.Copy(n)
	want.Kids = append(want.Kids, node("x", node("y", node("x"))))
	is(t, want)(Make(n, "/x/y/x"))
	want = tree.Copy(n)
	want.Kids[0].Kids = append(want.Kids[0].Kids, node("e"))
	is(t, want)(Make(n, "/a/e"))
	want = tree.Copy(n)
	want.Kids[0].Kids[0].Kids[0].Kids = []api.Node{node("a", node("b"))}
	is(t, want)(Make(n, "/a/b/c/a/b"))
	want = tree.Copy(n)
	want.Kids[1].Kids = []api.Node{node("d")}
	is(t, want)(Make(n, "/d/d"))
	is(t, chain(8))(Make(api.Node{}, "/1/2/3/4/5/6/7"))
	is(t, api.Node{})(Make(api.Node{}, "/"))
	is(t, node("", node(long(31))))(Make(api.Node{}, "/"+long(31)))
	for _, p := range []string{"", "a", "a/b", "//", "/a/", "//a", "/a//b", "/1/2/3/4/5/6/7/8", "/x/", strings.Repeat("/a", 100)} {
		refused(t, api.ErrNone)(Make(n, p))
		refused(t, api.ErrNone)(Make(chain(9), p))
		refused(t, api.ErrNone)(Make(wide(257, 64), p))
	}
}

func TestEd2MakeOfNamesThatAreNotAllowed(t *testing.T) {
	n := node("", node("a"), node(long(32), node("b")), node("a\x00"))
	for _, name := range []string{long(32), "\x00", "b\x00", long(1 << 10)} {
		for _, p := range []string{"/a/" + name, "/" + name + "x", "/x/" + name, "/" + name + "x/y", "/a/b/c/" + name} {
			refused(t, api.ErrArg)(Make(n, p))
		}
	}
	// Nothing is added where a child has the name.
	is(t, n)(Make(n, "/"+long(32)))
	is(t, n)(Make(n, "/"+long(32)+"/b"))
	is(t, n)(Make(n, "/a\x00"))
	want := tree.Copy(n)
	want.Kids[2].Kids = []api.Node{node("c")}
	is(t, want)(Make(n, "/a\x00/c"))
}

func TestEd2MakeReturnsTheFirstError(t *testing.T) {
	bad := "/" + long(32)
	// The tree becomes too big, or is too deep, ahead of the name that is not allowed, or behind it.
	refused(t, api.ErrArg)(Make(wide(0, 62), "/x"+bad))
	refused(t, api.ErrBig)(Make(wide(0, 63), "/x"+bad))
	refused(t, api.ErrBig)(Make(wide(0, 62), "/x/y"+bad))
	refused(t, api.ErrArg)(Make(wide(0, 63), "/0"+bad))
	refused(t, api.ErrArg)(Make(wide(0, 100), bad+"/x"))
	refused(t, api.ErrDepth)(Make(chain(9), "/x"+bad))
	refused(t, api.ErrArg)(Make(chain(9), "/1"+bad))
	refused(t, api.ErrArg)(Make(chain(9), bad))
}

func TestEd2MakeAtTheLimits(t *testing.T) {
	is(t, wide(0, 63))(Make(wide(0, 63), "/5"))
	is(t, wide(0, 63))(Make(wide(0, 62), "/62"))
	is(t, wide(256, 0))(Make(wide(256, 0), "/"))
	refused(t, api.OK)(Make(wide(0, 56), "/1/2/3/4/5/6/7"))
	refused(t, api.OK)(Make(wide(0, 57), "/1/2/3/4/5/6/7"))
	refused(t, api.ErrBig)(Make(wide(0, 58), "/1/2/3/4/5/6/7"))
	refused(t, api.ErrBig)(Make(wide(0, 64), "/5"))
	refused(t, api.ErrBig)(Make(wide(0, 64), "/"))
	refused(t, api.ErrBig)(Make(wide(257, 1), "/0"))
	refused(t, api.ErrBig)(Make(wide(257, 0), "/"))
	refused(t, api.ErrDepth)(Make(chain(9), "/"))
	refused(t, api.ErrDepth)(Make(chain(9), "/1"))
	is(t, chain(8))(Make(chain(8), "/1/2/3/4/5/6/7"))
}

func TestEd3WhatWasSetIsThere(t *testing.T) {
	r := rand.New(rand.NewPCG(17, 1))
	names := []string{"a", "b", "c", "d", "e", "f"}
	done := [5]int{}
	for range 20000 {
		n := small(r, names)
		p := somePath(r, n, names)
		name := names[r.IntN(len(names))]
		before, found := path.Find(n, p)
		if got, e := Set(n, p, name, "new"); e == api.OK {
			done[0]++
			at, _ := path.Find(got, p)
			if v, ok := path.Value(at, name); !ok || v != "new" || !found {
				t.Fatalf("Set of %q in %q of %v is %v", name, p, n, got)
			}
		}
		if got, e := Unset(n, p, name); e == api.OK {
			done[1]++
			at, _ := path.Find(got, p)
			if len(at.Props) != len(before.Props)-1 || many(before, name) != many(at, name)+1 {
				t.Fatalf("Unset of %q in %q of %v is %v", name, p, n, got)
			}
		}
		if got, e := Add(n, p, name); e == api.OK {
			done[2]++
			if at, ok := path.Find(got, path.Join(append(parts(p), name)...)); !ok || !tree.Same(at, node(name)) {
				t.Fatalf("Add of %q in %q of %v is %v", name, p, n, got)
			}
			if back, e := Drop(got, path.Join(append(parts(p), name)...)); e != api.OK || !tree.Same(back, n) {
				t.Fatalf("Drop of what was added in %v is %v, %d", got, back, e)
			}
		}
		if got, e := Drop(n, p); e == api.OK {
			done[3]++
			l := parts(p)
			above, _ := path.Find(n, path.Join(l[:len(l)-1]...))
			_, there := path.Find(got, p)
			if there != (twins(above, l[len(l)-1]) > 1) {
				t.Fatalf("Drop of %q of %v is %v", p, n, got)
			}
		}
		if got, e := Make(n, p); e == api.OK {
			done[4]++
			if _, ok := path.Find(got, p); !ok || (found && !tree.Same(got, n)) {
				t.Fatalf("Make of %q of %v is %v", p, n, got)
			}
		}
	}
	if slices.Min(done[:]) < 1000 {
		t.Errorf("only %d", done)
	}
}

// parts are the names of a path.
func parts(p string) []string {
	l, _ := path.Parts(p)
	return l
}

// many is how many properties of a node have a name.
func many(n api.Node, name string) int {
	found := 0
	for _, p := range n.Props {
		if p.Name == name {
			found++
		}
	}
	return found
}

// twins is how many children of a node have a name.
func twins(n api.Node, name string) int {
	found := 0
	for _, kid := range n.Kids {
		if kid.Name == name {
			found++
		}
	}
	return found
}

func TestEd3EverythingElseIsUnchanged(t *testing.T) {
	r := rand.New(rand.NewPCG(17, 2))
	pools := [][]string{
		{"a", "b", "c"},
		{"a", "b", "c", "d", "e", "f", "g", "cpu@0", long(31)},
		{"a", "b", "", "a/b", "/", long(32), "\x00", "c\x00"},
	}
	seen := map[api.Errno]int{}
	for k := range 30000 {
		names := pools[k%3]
		n := random(r, names, 1+r.IntN(6))
		if k%100 == 0 {
			n = random(r, names, 10)
		}
		if k%10 == 0 {
			n.Kids = append(n.Kids, wide(r.IntN(300), r.IntN(70)))
		}
		l := flat(n)
		p := somePath(r, n, names)
		name := names[r.IntN(len(names))]
		got, e := Set(n, p, name, "new")
		want, wantErr := plainSet(l, p, name, "new")
		agree(t, "Set "+p+", "+name, n, got, e, want, wantErr)
		seen[e]++
		got, e = Unset(n, p, name)
		want, wantErr = plainUnset(l, p, name)
		agree(t, "Unset "+p+", "+name, n, got, e, want, wantErr)
		seen[e]++
		got, e = Add(n, p, name)
		want, wantErr = plainAdd(l, p, name)
		agree(t, "Add "+p+", "+name, n, got, e, want, wantErr)
		seen[e]++
		got, e = Drop(n, p)
		want, wantErr = plainDrop(l, p)
		agree(t, "Drop "+p, n, got, e, want, wantErr)
		seen[e]++
		got, e = Make(n, p)
		want, wantErr = plainMake(l, p)
		agree(t, "Make "+p, n, got, e, want, wantErr)
		seen[e]++
		if !slices.Equal(flat(n), l) {
			t.Fatalf("an edit of %q, %q changed its argument to %v", p, name, n)
		}
	}
	for _, e := range []api.Errno{api.OK, api.ErrNone, api.ErrArg, api.ErrExist, api.ErrDepth, api.ErrBig} {
		if seen[e] < 100 {
			t.Errorf("error %d was returned %d times", e, seen[e])
		}
	}
}

func TestEd3OfManyEdits(t *testing.T) {
	r := rand.New(rand.NewPCG(17, 3))
	names := []string{"a", "b", "c", "d", "e"}
	for range 20 {
		n := api.Node{}
		l := flat(n)
		for range 1500 {
			p := somePath(r, n, names)
			name := names[r.IntN(len(names))]
			var got api.Node
			var want []api.Token
			var e, wantErr api.Errno
			switch r.IntN(12) {
			case 0:
				got, e = Drop(n, p)
				want, wantErr = plainDrop(l, p)
			case 1, 2:
				got, e = Unset(n, p, name)
				want, wantErr = plainUnset(l, p, name)
			case 3, 4, 5:
				got, e = Make(n, p)
				want, wantErr = plainMake(l, p)
			case 6, 7, 8:
				got, e = Add(n, p, name)
				want, wantErr = plainAdd(l, p, name)
			default:
				v := strconv.Itoa(r.IntN(100))
				got, e = Set(n, p, name, v)
				want, wantErr = plainSet(l, p, name, v)
			}
			agree(t, "an edit of "+p+", "+name, n, got, e, want, wantErr)
			if e == api.OK {
				n, l = got, want
			}
		}
	}
}
