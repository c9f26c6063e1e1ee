package path

import (
	"math/rand/v2"
	"reflect"
	"slices"
	"strconv"
	"strings"
	"testing"

	"postilion/api"
	"postilion/tree"
	"postilion/value"
)

// words are all strings over an alphabet with at most so many letters.
func words(alphabet string, most int) []string {
	all := []string{""}
	last := all
	for range most {
		var next []string
		for _, w := range last {
			for i := range len(alphabet) {
				next = append(next, w+alphabet[i:i+1])
			}
		}
		all = append(all, next...)
		last = next
	}
	return all
}

// node is a node with children.
func node(name string, kids ...api.Node) api.Node { return api.Node{Name: name, Kids: kids} }

// with is a node with properties: a name, a value, a name, and so on.
func with(n api.Node, l ...string) api.Node {
	for k := 0; k < len(l); k += 2 {
		n.Props = append(n.Props, api.Prop{Name: l[k], Value: l[k+1]})
	}
	return n
}

// chain is a tree of so many levels with one node each, of which that below k others has the number k as its name; the root's is empty.
func chain(levels int) api.Node {
	var kids []api.Node
	for k := levels - 1; k > 0; k-- {
		kids = []api.Node{node(strconv.Itoa(k), kids...)}
	}
	return node("", kids...)
}

// slowParts are a path's names, read byte by byte.
func slowParts(p string) ([]string, bool) {
	if p == "/" {
		return nil, true
	}
	var l []string
	for i := range len(p) {
		switch {
		case p[i] == '/' && (i+1 == len(p) || p[i+1] == '/'):
			return nil, false
		case p[i] == '/':
			l = append(l, "")
		case i == 0:
			return nil, false
		default:
			l[len(l)-1] += p[i : i+1]
		}
	}
	if len(l) == 0 || len(l) > 7 {
		return nil, false
	}
	return l, true
}

// slowFind is the node of a path, with the first node of each name kept in a map.
func slowFind(n api.Node, p string) (api.Node, bool) {
	l, ok := slowParts(p)
	if !ok {
		return api.Node{}, false
	}
	for _, name := range l {
		first := map[string]api.Node{}
		for _, kid := range slices.Backward(n.Kids) {
			first[kid.Name] = kid
		}
		if n, ok = first[name]; !ok {
			return api.Node{}, false
		}
	}
	return n, true
}

// slowValue is the value of the first property of a name.
func slowValue(n api.Node, name string) (string, bool) {
	first := map[string]string{}
	for _, p := range slices.Backward(n.Props) {
		first[p.Name] = p.Value
	}
	v, ok := first[name]
	return v, ok
}

// checkParts holds Parts against the plain reading.
func checkParts(t *testing.T, p string) {
	t.Helper()
	want, is := slowParts(p)
	l, ok := Parts(p)
	if ok != is || !slices.Equal(l, want) || (!ok && l != nil) {
		t.Fatalf("Parts(%q) is %q, %v, not %q, %v", p, l, ok, want, is)
	}
	if ok && Join(l...) != p {
		t.Fatalf("Join(%q) is %q, not %q", l, Join(l...), p)
	}
}

// checkFind holds what Find, Value, Text and Number say of a path and a name against the plain reading.
func checkFind(t *testing.T, n api.Node, p, name string) {
	t.Helper()
	wantNode, is := slowFind(n, p)
	if got, ok := Find(n, p); ok != is || !reflect.DeepEqual(got, wantNode) {
		t.Fatalf("Find(%v, %q) is %v, %v, not %v, %v", n, p, got, ok, wantNode, is)
	}
	wantValue, has := slowValue(wantNode, name)
	if v, ok := Value(wantNode, name); ok != has || v != wantValue {
		t.Fatalf("Value(%v, %q) is %q, %v, not %q, %v", wantNode, name, v, ok, wantValue, has)
	}
	text, isText := value.AsText(wantValue)
	if s, ok := Text(n, p, name); s != text || ok != (is && has && isText) {
		t.Fatalf("Text(%v, %q, %q) is %q, %v, not %q, %v", n, p, name, s, ok, text, is && has && isText)
	}
	number, isNumber := value.AsNumber(wantValue)
	if m, ok := Number(n, p, name); m != number || ok != (is && has && isNumber) {
		t.Fatalf("Number(%v, %q, %q) is %d, %v, not %d, %v", n, p, name, m, ok, number, is && has && isNumber)
	}
}

// finds fails if a path does not lead to a node.
func finds(t *testing.T, n api.Node, p string, want api.Node) {
	t.Helper()
	if got, ok := Find(n, p); !ok || !reflect.DeepEqual(got, want) {
		t.Errorf("Find(%v, %q) is %v, %v, not %v", n, p, got, ok, want)
	}
}

// misses fails if a path leads to a node, or to a text or a number there, or if anything is told beside the false.
func misses(t *testing.T, n api.Node, p, name string) {
	t.Helper()
	if got, ok := Find(n, p); ok || !reflect.DeepEqual(got, api.Node{}) {
		t.Errorf("Find(%v, %q) is %v, %v", n, p, got, ok)
	}
	if s, ok := Text(n, p, name); ok || s != "" {
		t.Errorf("Text(%v, %q, %q) is %q, %v", n, p, name, s, ok)
	}
	if m, ok := Number(n, p, name); ok || m != 0 {
		t.Errorf("Number(%v, %q, %q) is %d, %v", n, p, name, m, ok)
	}
}

// random is some tree whose names are taken from a list; each node has a property that no other one has.
func random(r *rand.Rand, names []string, levels int, next *int) api.Node {
	values := []string{"", "hi\x00", "\x00", "a\x00b\x00", "abc", "\x00\x00\x00\x05", "\x00\x00\x00\x05\x00\x00\x00\x06", "abc\x00"}
	n := api.Node{Name: names[r.IntN(len(names))]}
	for range r.IntN(4) {
		n.Props = append(n.Props, api.Prop{Name: names[r.IntN(len(names))], Value: values[r.IntN(len(values))]})
	}
	*next++
	n.Props = append(n.Props, api.Prop{Name: "id", Value: value.Numbers(*next)})
	if levels > 1 {
		for range r.IntN(4) {
			n.Kids = append(n.Kids, random(r, names, levels-1, next))
		}
	}
	return n
}

// reached calls a function with each node of the first eight levels to which a path leads: no name on its way is empty or contains a slash, and there is no child ahead of one on its way that has the same name.
func reached(n api.Node, p string, level int, do func(p string, n api.Node)) {
	do(p, n)
	if level == 8 {
		return
	}
	if p == "/" {
		p = ""
	}
	for k, kid := range n.Kids {
		hidden := kid.Name == "" || strings.Contains(kid.Name, "/")
		for _, other := range n.Kids[:k] {
			hidden = hidden || other.Name == kid.Name
		}
		if !hidden {
			reached(kid, p+"/"+kid.Name, level+1, do)
		}
	}
}

func TestExample(t *testing.T) {
	if l, ok := Parts("/a/b"); !ok || !slices.Equal(l, []string{"a", "b"}) {
		t.Errorf("%q, %v", l, ok)
	}
}

func TestPt1Parts(t *testing.T) {
	for _, c := range []struct {
		p    string
		want []string
	}{
		{"/a", []string{"a"}},
		{"/cpus/cpu@0", []string{"cpus", "cpu@0"}},
		{"/b/a/b", []string{"b", "a", "b"}},
		{"/1/2/3/4/5/6", []string{"1", "2", "3", "4", "5", "6"}},
		{"/1/2/3/4/5/6/7", []string{"1", "2", "3", "4", "5", "6", "7"}},
		// All bytes but a slash are a name's.
		{"/ /\x00/\xff/é/\\/./..", []string{" ", "\x00", "\xff", "é", "\\", ".", ".."}},
		// The chapter sets no limit to a name.
		{"/" + strings.Repeat("x", 1<<16), []string{strings.Repeat("x", 1<<16)}},
	} {
		if l, ok := Parts(c.p); !ok || !slices.Equal(l, c.want) {
			t.Errorf("Parts(%.80q) is %.80q, %v", c.p, l, ok)
		}
	}
	if l, ok := Parts("/"); !ok || len(l) != 0 {
		t.Errorf("Parts of the root's path is %q, %v", l, ok)
	}
}

func TestPt1PartsOfNoPath(t *testing.T) {
	for _, p := range []string{
		"", "a", "a/", "a/b", " /a", "\\a", "\x00/",
		"//", "///", "//a", "/a/", "/a//", "/a//b", "/a/b/", "/a/b//c",
		"/1/2/3/4/5/6/7/", "/1/2/3/4/5/6/7//", "/1/2/3/4/5/6/7/8", "/1/2/3/4/5/6//8", "/1/2/3/4/5/6/7/8/", "/1/2/3/4/5/6/7/8/9",
		strings.Repeat("/a", 1<<16), strings.Repeat("/", 1<<16),
	} {
		if l, ok := Parts(p); ok || l != nil {
			t.Errorf("Parts(%.80q) is %.80q, %v", p, l, ok)
		}
	}
}

func TestPt1PartsOfManyTexts(t *testing.T) {
	for _, p := range words("/a", 17) {
		checkParts(t, p)
	}
	for _, p := range words("/ab\x00", 7) {
		checkParts(t, p)
	}
	r := rand.New(rand.NewPCG(16, 1))
	for range 20000 {
		b := make([]byte, r.IntN(30))
		for i := range b {
			b[i] = "/////ab@\xff\x00"[r.IntN(10)]
		}
		checkParts(t, string(b))
		checkParts(t, "/"+string(b))
	}
}

func TestPt1PartsAreApart(t *testing.T) {
	a, _ := Parts("/a/b")
	b, _ := Parts("/a/b")
	a[0] = "c"
	_ = append(a[:1], "d")
	if !slices.Equal(b, []string{"a", "b"}) {
		t.Errorf("%q", b)
	}
}

func TestPt1Join(t *testing.T) {
	for _, c := range []struct {
		l    []string
		want string
	}{
		{nil, "/"},
		{[]string{}, "/"},
		{[]string{"a"}, "/a"},
		{[]string{"a", "b", "a"}, "/a/b/a"},
		{[]string{"cpus", "cpu@0"}, "/cpus/cpu@0"},
		{[]string{"1", "2", "3", "4", "5", "6", "7"}, "/1/2/3/4/5/6/7"},
		// What is joined need not be a path.
		{[]string{""}, "/"},
		{[]string{"", ""}, "//"},
		{[]string{"a", ""}, "/a/"},
		{[]string{"", "a"}, "//a"},
		{[]string{"/"}, "//"},
		{[]string{"/a", "b/c"}, "//a/b/c"},
		{[]string{"1", "2", "3", "4", "5", "6", "7", "8", "9"}, "/1/2/3/4/5/6/7/8/9"},
		{[]string{"\x00", "\xff é"}, "/\x00/\xff é"},
		{slices.Repeat([]string{"a"}, 1<<16), strings.Repeat("/a", 1<<16)},
	} {
		before := slices.Clone(c.l)
		if s := Join(c.l...); s != c.want {
			t.Errorf("Join(%.80q) is %.80q, not %.80q", c.l, s, c.want)
		}
		if !slices.Equal(c.l, before) {
			t.Errorf("Join changed %.80q", before)
		}
	}
	// The memory behind the end of a list is not read, nor changed.
	all := []string{"a", "b", "c"}
	if s := Join(all[:1]...); s != "/a" || !slices.Equal(all, []string{"a", "b", "c"}) {
		t.Errorf("%q, %q", s, all)
	}
}

func TestPt1Kid(t *testing.T) {
	b := with(node("b", node("c")), "p", "1")
	n := with(node("top", node("a", node("inner")), b, node("b"), node(""), node("x/y"), node("", node("later"))), "q", "2")
	for _, c := range []struct {
		name string
		want api.Node
		ok   bool
	}{
		{"a", n.Kids[0], true},
		// the first one of a name
		{"b", b, true},
		{"", node(""), true},
		{"x/y", node("x/y"), true},
		// neither the node itself, nor what is below its children, nor its properties, nor a part of a name, nor a path
		{"top", api.Node{}, false},
		{"inner", api.Node{}, false},
		{"c", api.Node{}, false},
		{"q", api.Node{}, false},
		{"x", api.Node{}, false},
		{"aa", api.Node{}, false},
		{"A", api.Node{}, false},
		{"a@0", api.Node{}, false},
		{"/a", api.Node{}, false},
		{"/", api.Node{}, false},
		{"b/c", api.Node{}, false},
	} {
		if k, ok := Kid(n, c.name); ok != c.ok || !reflect.DeepEqual(k, c.want) {
			t.Errorf("Kid(%q) is %v, %v", c.name, k, ok)
		}
	}
	// A name without the address is none of the node's.
	if k, ok := Kid(node("", node("cpu@0")), "cpu"); ok || !reflect.DeepEqual(k, api.Node{}) {
		t.Errorf("%v, %v", k, ok)
	}
	for _, name := range []string{"", "a", "/"} {
		if k, ok := Kid(api.Node{Name: name}, name); ok || !reflect.DeepEqual(k, api.Node{}) {
			t.Errorf("Kid(%q) of no children is %v, %v", name, k, ok)
		}
	}
	// A child that is nothing but there is found.
	if k, ok := Kid(node("", api.Node{}), ""); !ok || !reflect.DeepEqual(k, api.Node{}) {
		t.Errorf("%v, %v", k, ok)
	}
}

func TestPt1Find(t *testing.T) {
	c := with(node("c", node("d")), "p", "1")
	n := with(node("top", node("a", node("b"), c), node("a", node("x")), node("e", node("e", node("e")))), "q", "2")
	finds(t, n, "/", n)
	finds(t, n, "/a", n.Kids[0])
	finds(t, n, "/a/b", node("b"))
	finds(t, n, "/a/c", c)
	finds(t, n, "/a/c/d", node("d"))
	finds(t, n, "/e/e", n.Kids[2].Kids[0])
	finds(t, n, "/e/e/e", node("e"))
	finds(t, api.Node{}, "/", api.Node{})
	for _, p := range []string{
		// no paths
		"", "a", "//", "/a/", "//a", "/a//b", "a/b", "/a/c/d/",
		// The root's name is not part of a path, nor is a property.
		"/top", "/top/a", "/q", "/a/c/p",
		// Of two children with the same name, only the first one is looked at.
		"/a/x",
		"/b", "/x", "/a/d", "/a/b/c", "/e/e/e/e", "/A", "/a /b",
	} {
		misses(t, n, p, "p")
	}
	misses(t, api.Node{}, "/a", "p")
}

func TestPt1FindOfNamesThatAreNone(t *testing.T) {
	n := node("", node("", node("a")), node("x/y", node("b")), node("x", node("z")))
	for _, p := range []string{"//", "//a", "/x/y", "/x/y/b", "", "x/y"} {
		misses(t, n, p, "p")
	}
	finds(t, n, "/x", n.Kids[2])
	finds(t, n, "/x/z", node("z"))
}

func TestPt1FindOfLevels(t *testing.T) {
	n := chain(12)
	below := n
	for k := 1; k <= 11; k++ {
		below = below.Kids[0]
		var names []string
		for i := range k {
			names = append(names, strconv.Itoa(i+1))
		}
		if k <= 7 {
			finds(t, n, Join(names...), below)
		} else {
			misses(t, n, Join(names...), "p")
		}
	}
	// The limit is one of the path: what begins further down is found from there.
	finds(t, n.Kids[0].Kids[0].Kids[0].Kids[0], "/5/6/7/8/9/10/11", node("11"))
}

func TestPt1Value(t *testing.T) {
	n := with(node("n", with(node("kid"), "c", "4")), "a", "1", "b", "", "a", "2", "", "3", "b", "5")
	for _, c := range []struct {
		name, want string
		ok         bool
	}{
		{"a", "1", true},
		{"b", "", true},
		{"", "3", true},
		{"c", "", false},
		{"n", "", false},
		{"kid", "", false},
		{"aa", "", false},
		{"A", "", false},
		{"/a", "", false},
	} {
		if v, ok := Value(n, c.name); v != c.want || ok != c.ok {
			t.Errorf("Value(%q) is %q, %v, not %q, %v", c.name, v, ok, c.want, c.ok)
		}
	}
	if v, ok := Value(api.Node{}, ""); v != "" || ok {
		t.Errorf("%q, %v", v, ok)
	}
}

func TestPt1TextAndNumber(t *testing.T) {
	kid := with(node("k"), "text", "hi\x00", "text", "no\x00", "number", "\x00\x00\x00\x07", "both", "abc\x00", "none", "", "two", "a\x00b\x00", "raw", "abc", "zero", "\x00\x00\x00\x00", "empty", "\x00", "many", "\x00\x00\x00\x01\x00\x00\x00\x02", "top", "\xff\xff\xff\xff")
	n := with(node("", kid, with(node("k"), "late", "x\x00")), "text", "root\x00", "number", "\x00\x00\x01\x00")
	for _, c := range []struct {
		p, name string
		text    string
		isText  bool
		number  int
		is      bool
	}{
		{"/", "text", "root", true, 0, false},
		{"/", "number", "", false, 256, true},
		{"/k", "text", "hi", true, 0, false},
		{"/k", "number", "", false, 7, true},
		{"/k", "both", "abc", true, 0x61626300, true},
		{"/k", "none", "", false, 0, false},
		{"/k", "two", "", false, 0x61006200, true},
		{"/k", "raw", "", false, 0, false},
		{"/k", "zero", "", false, 0, true},
		{"/k", "empty", "", true, 0, false},
		{"/k", "many", "", false, 0, false},
		{"/k", "top", "", false, api.Max32, true},
		{"/k", "late", "", false, 0, false},
		{"/k", "", "", false, 0, false},
		{"/", "both", "", false, 0, false},
		{"/k/k", "text", "", false, 0, false},
		{"k", "text", "", false, 0, false},
		{"/k/", "text", "", false, 0, false},
		{"/k/", "number", "", false, 0, false},
		{"", "text", "", false, 0, false},
		{"", "number", "", false, 0, false},
		{"//", "number", "", false, 0, false},
	} {
		if s, ok := Text(n, c.p, c.name); s != c.text || ok != c.isText {
			t.Errorf("Text(%q, %q) is %q, %v, not %q, %v", c.p, c.name, s, ok, c.text, c.isText)
		}
		if m, ok := Number(n, c.p, c.name); m != c.number || ok != c.is {
			t.Errorf("Number(%q, %q) is %d, %v, not %d, %v", c.p, c.name, m, ok, c.number, c.is)
		}
	}
}

func TestPt1TextAndNumberFailAtTheFirstValue(t *testing.T) {
	// The first property counts, even where only a later one has such a value.
	n := with(api.Node{}, "a", "abcde", "a", "hi\x00", "a", "\x00\x00\x00\x01")
	if s, ok := Text(n, "/", "a"); s != "" || ok {
		t.Errorf("%q, %v", s, ok)
	}
	if m, ok := Number(n, "/", "a"); m != 0 || ok {
		t.Errorf("%d, %v", m, ok)
	}
}

func TestPt1OfManyTrees(t *testing.T) {
	r := rand.New(rand.NewPCG(16, 2))
	names := []string{"a", "b", "c", "", "a/b", "/", "top"}
	paths := append(words("/ab", 6), "/top", "/top/a", "/a/b/a/b/a/b/a", "/a/a/a/a/a/a/a", "/a/a/a/a/a/a/a/a", "/a/b/c/a/b/c/a/")
	next := 0
	for k := range 60 {
		n := random(r, names, 1+k%10, &next)
		before := tree.Copy(n)
		for _, p := range paths {
			checkFind(t, n, p, names[r.IntN(len(names))])
		}
		for _, name := range append(names, "id", "d") {
			first := slices.IndexFunc(n.Kids, func(kid api.Node) bool { return kid.Name == name })
			if kid, ok := Kid(n, name); ok != (first >= 0) || (ok && !reflect.DeepEqual(kid, n.Kids[first])) || (!ok && !reflect.DeepEqual(kid, api.Node{})) {
				t.Fatalf("Kid(%v, %q) is %v, %v", n, name, kid, ok)
			}
		}
		if !tree.Same(n, before) {
			t.Fatalf("%v is changed to %v", before, n)
		}
	}
}

func TestPt1BehindTheEnd(t *testing.T) {
	kids := []api.Node{node("a"), node("b")}
	props := []api.Prop{{Name: "p", Value: "1\x00"}, {Name: "q", Value: "2\x00"}}
	n := api.Node{Props: props[:1], Kids: kids[:1]}
	misses(t, n, "/b", "q")
	misses(t, n, "/a/b", "q")
	if s, ok := Text(n, "/", "q"); s != "" || ok {
		t.Errorf("%q, %v", s, ok)
	}
	if k, ok := Kid(n, "b"); ok || k.Name != "" {
		t.Errorf("%v, %v", k, ok)
	}
}

func TestPt2EachNodeIsFoundAtItsPath(t *testing.T) {
	r := rand.New(rand.NewPCG(16, 3))
	next, many, hidden := 0, 0, 0
	for k := range 400 {
		n := random(r, []string{"a", "b", "c", "d", "e", "f", "g@1", "é", "\x00", " "}, 1+k%11, &next)
		at := map[string]api.Node{}
		reached(n, "/", 1, func(p string, n api.Node) { at[p] = n })
		found := 0
		for _, spot := range tree.Walk(n) {
			want, is := at[spot.Path]
			got, ok := Find(n, spot.Path)
			if ok != is || !reflect.DeepEqual(got, want) {
				t.Fatalf("%q of %v is %v, %v, not %v, %v", spot.Path, n, got, ok, want, is)
			}
			if ok && reflect.DeepEqual(got, spot.Node) {
				found++
			} else {
				hidden++
			}
		}
		if found != len(at) {
			t.Fatalf("%d nodes of %v are found, not %d", found, n, len(at))
		}
		many += found
	}
	if many < 3000 || hidden < 1000 {
		t.Errorf("only %d nodes, %d hidden", many, hidden)
	}
}

func TestPt2BesideNamesThatAreNone(t *testing.T) {
	// Where a name is empty or contains a slash, what is not below it is found as before, even if it comes later.
	r := rand.New(rand.NewPCG(16, 4))
	next := 0
	for k := range 400 {
		n := random(r, []string{"a", "b", "c", "", "a/b", "/", "b/"}, 1+k%9, &next)
		reached(n, "/", 1, func(p string, want api.Node) { finds(t, n, p, want) })
	}
}

func TestPt2OfTheDeepestLevel(t *testing.T) {
	n := chain(8)
	spots := tree.Walk(n)
	if len(spots) != 8 {
		t.Fatal(len(spots))
	}
	for _, spot := range spots {
		finds(t, n, spot.Path, spot.Node)
	}
	if names, ok := Parts(spots[7].Path); !ok || len(names) != 7 {
		t.Errorf("%q, %v", names, ok)
	}
}
