package grammar

import (
	"fmt"
	"math/rand/v2"
	"reflect"
	"regexp"
	"slices"
	"strconv"
	"strings"
	"testing"

	"postilion/api"
	"postilion/path"
	"postilion/tree"
)

// The bytes of names, one by one as the chapter says them.
const (
	letters = "abcdefghijklmnopqrstuvwxyzABCDEFGHIJKLMNOPQRSTUVWXYZ"
	inside  = letters + "0123456789" + ",._+-"
	inProps = inside + "?#"
)

// The names, as patterns: all but how long they may be.
var (
	nodePattern = regexp.MustCompile(`\A[a-zA-Z][a-zA-Z0-9,._+\-]*(@[a-zA-Z0-9,._+\-]+)?\z`)
	propPattern = regexp.MustCompile(`\A[a-zA-Z0-9,._+\-?#]+\z`)
)

// slowNode and slowProp are Node and Prop, told by the patterns.
func slowNode(name string) bool { return len(name) < 32 && nodePattern.MatchString(name) }
func slowProp(name string) bool { return len(name) < 32 && propPattern.MatchString(name) }

// slowUnit is Unit, told byte by byte.
func slowUnit(name string) (string, bool) {
	for k := range len(name) {
		if name[k] == '@' {
			return name[k+1:], true
		}
	}
	return "", false
}

// slowNames tells of names, with each of them held against all that are ahead of it.
func slowNames(names []string, right func(string) bool) api.Errno {
	e := api.OK
	for k, name := range names {
		if !right(name) {
			return api.ErrForm
		}
		if slices.Contains(names[:k], name) {
			e = api.ErrExist
		}
	}
	return e
}

// slowCheck is Check, told as the chapter says it: by the nodes that Walk returns.
func slowCheck(n api.Node) api.Errno {
	nodes, props, depth := tree.Count(n)
	switch {
	case depth > 8:
		return api.ErrDepth
	case nodes > 64 || props > 256:
		return api.ErrBig
	case n.Name != "":
		return api.ErrForm
	}
	for _, x := range tree.Walk(n) {
		var ofProps, ofKids []string
		for _, p := range x.Node.Props {
			ofProps = append(ofProps, p.Name)
		}
		for _, kid := range x.Node.Kids {
			ofKids = append(ofKids, kid.Name)
		}
		if e := slowNames(ofProps, slowProp); e != api.OK {
			return e
		}
		if e := slowNames(ofKids, slowNode); e != api.OK {
			return e
		}
	}
	return api.OK
}

// node is a node with children.
func node(name string, kids ...api.Node) api.Node { return api.Node{Name: name, Kids: kids} }

// props are properties of these names, each with a value of its own.
func props(names ...string) []api.Prop {
	var l []api.Prop
	for k, name := range names {
		l = append(l, api.Prop{Name: name, Value: strconv.Itoa(k)})
	}
	return l
}

// numbered are so many names that begin with a text, all of them different.
func numbered(text string, many int) []string {
	var l []string
	for k := range many {
		l = append(l, text+strconv.Itoa(k))
	}
	return l
}

// with is a node with properties of these names, and children of those.
func with(propNames, kidNames []string) api.Node {
	n := api.Node{Props: props(propNames...)}
	for _, name := range kidNames {
		n.Kids = append(n.Kids, node(name))
	}
	return n
}

// called is a node with another name.
func called(name string, n api.Node) api.Node {
	n.Name = name
	return n
}

// deep is a root with a tree below it, and so many nodes with one child each between them.
func deep(levels int, below api.Node) api.Node {
	for k := range levels {
		below = node("d"+strconv.Itoa(k), below)
	}
	return node("", below)
}

// text is a tree as a text: trees are the same if and only if their texts are.
func text(n api.Node) string {
	var b strings.Builder
	fmt.Fprintf(&b, "%q{", n.Name)
	for _, p := range n.Props {
		fmt.Fprintf(&b, "%q=%q;", p.Name, p.Value)
	}
	for _, kid := range n.Kids {
		b.WriteString(text(kid))
	}
	b.WriteString("}")
	return b.String()
}

// checks fails unless Check, and slowCheck, return an error.
func checks(t *testing.T, what string, n api.Node, want api.Errno) {
	t.Helper()
	if e := Check(n); e != want {
		t.Errorf("%s: Check is %d, not %d", what, e, want)
	}
	if e := slowCheck(n); e != want {
		t.Errorf("%s: the plain telling is %d, not %d", what, e, want)
	}
}

// named fails unless Node, Prop and Unit are right of a name.
func named(t *testing.T, name string, isNode, isProp bool) {
	t.Helper()
	if got := Node(name); got != isNode {
		t.Errorf("Node(%q) is %v", name, got)
	}
	if got := Prop(name); got != isProp {
		t.Errorf("Prop(%q) is %v", name, got)
	}
	unit, ok := Unit(name)
	if want, wantOk := slowUnit(name); unit != want || ok != wantOk {
		t.Errorf("Unit(%q) is %q, %v", name, unit, ok)
	}
}

func TestExample(t *testing.T) {
	if !Node("cpu@0") || Node("@0") {
		t.Error("cpu@0 is a name of a child, @0 is not")
	}
}

func TestGm1Names(t *testing.T) {
	for _, x := range []struct {
		name           string
		isNode, isProp bool
	}{
		{"cpu", true, true},
		{"cpu@0", true, false},
		{"memory@80000000", true, false},
		{"linux,initrd-end", true, true},
		{"#address-cells", false, true},
		{"interrupts?", false, true},
		{"Z", true, true},
		{"", false, false},
		{"0", false, true},
		{"9a", false, true},
		{",a", false, true},
		{".a", false, true},
		{"_a", false, true},
		{"+a", false, true},
		{"-a", false, true},
		{"?", false, true},
		{"#", false, true},
		{"a?", false, true},
		{"a#", false, true},
		{"a9,._+-", true, true},
		// The unit may begin with any of its bytes; it needs one, and a name before it.
		{"@", false, false},
		{"@0", false, false},
		{"a@", false, false},
		{"a@0", true, false},
		{"a@a", true, false},
		{"a@,", true, false},
		{"a@.", true, false},
		{"a@_", true, false},
		{"a@+", true, false},
		{"a@-", true, false},
		{"a@?", false, false},
		{"a@#", false, false},
		{"a?@0", false, false},
		{"0@0", false, false},
		// Only one sign is not the unit's.
		{"a@@", false, false},
		{"a@@0", false, false},
		{"a@0@", false, false},
		{"a@b@c", false, false},
		{"a@0@0", false, false},
		// What is in no name.
		{"a/b", false, false},
		{"/", false, false},
		{"/a", false, false},
		{"a b", false, false},
		{" a", false, false},
		{"a ", false, false},
		{"a\n", false, false},
		{"a\x00", false, false},
		{"\x00", false, false},
		{"a@0\x00", false, false},
		{"a@0\n", false, false},
		{"é", false, false},
		{"aé", false, false},
		{"a@é", false, false},
		{"a\xe9", false, false},
		{"a\xc3", false, false},
		{"\xffa", false, false},
		// The letters of other alphabets, and digits that are not 0 to 9.
		{"а", false, false},
		{"a٣", false, false},
		{"ａ", false, false},
	} {
		named(t, x.name, x.isNode, x.isProp)
	}
}

func TestGm1EachByte(t *testing.T) {
	for k := range 256 {
		c := string([]byte{byte(k)})
		first, isIn, isProp := strings.Contains(letters, c), strings.Contains(inside, c), strings.Contains(inProps, c)
		named(t, c, first, isProp)
		named(t, c+"b", first, isProp)
		named(t, c+"@0", first, false)
		named(t, "b"+c, isIn, isProp)
		named(t, "b"+c+"b", isIn || c == "@", isProp)
		named(t, "b"+c+"@0", isIn, false)
		named(t, "b@"+c, isIn, false)
		named(t, "b@"+c+"0", isIn, false)
		named(t, "b@0"+c, isIn, false)
		named(t, "0"+c, false, isProp)
		named(t, "?"+c, false, isProp)
		named(t, strings.Repeat("b", 30)+c, isIn, isProp)
		named(t, "b@"+strings.Repeat("0", 28)+c, isIn, false)
	}
	if len(letters) != 52 || len(inside) != 67 || len(inProps) != 69 {
		t.Error("the bytes of this test are not those of the chapter")
	}
}

func TestGm1Lengths(t *testing.T) {
	for _, n := range []int{1, 2, 3, 4, 29, 30, 31, 32, 33, 62, 63, 64, 255, 256, 257, 287, 288, 65537, 1 << 20} {
		named(t, strings.Repeat("n", n), n <= 31, n <= 31)
		named(t, strings.Repeat("?", n), false, n <= 31)
		named(t, strings.Repeat("0", n), false, n <= 31)
		named(t, strings.Repeat("@", n), false, false)
		named(t, strings.Repeat("\x00", n), false, false)
	}
	// All bytes count: those of the name, the sign, and those of the unit.
	for base := range 40 {
		for unit := range 40 {
			name := strings.Repeat("n", base) + "@" + strings.Repeat("1", unit)
			named(t, name, base > 0 && unit > 0 && base+1+unit <= 31, false)
		}
	}
}

func TestGm1Unit(t *testing.T) {
	for _, x := range []struct {
		name, want string
		ok         bool
	}{
		{"cpu@0", "0", true},
		{"cpu", "", false},
		{"", "", false},
		// Whether the name is right is not asked.
		{"@", "", true},
		{"a@", "", true},
		{"@0", "0", true},
		{"a@b@c", "b@c", true},
		{"@@", "@", true},
		{"a@\x00/ é", "\x00/ é", true},
		{"\x00/@#", "#", true},
		{"a/b", "", false},
		{strings.Repeat("n", 100) + "@" + strings.Repeat("1", 100), strings.Repeat("1", 100), true},
	} {
		if unit, ok := Unit(x.name); unit != x.want || ok != x.ok {
			t.Errorf("Unit(%q) is %q, %v", x.name, unit, ok)
		}
	}
}

func TestGm1AllShortNames(t *testing.T) {
	last := []string{""}
	for range 6 {
		var next []string
		for _, w := range last {
			named(t, w, slowNode(w), slowProp(w))
			for _, c := range []string{"a", "Z", "5", ".", "@", "#", "/", "\x00"} {
				next = append(next, w+c)
			}
		}
		last = next
	}
}

func TestGm1AnyNames(t *testing.T) {
	r := rand.New(rand.NewPCG(19, 1))
	right := [3]int{}
	for range 60000 {
		var b strings.Builder
		for range r.IntN(36) {
			switch r.IntN(60) {
			case 0:
				b.WriteByte(byte(r.IntN(256)))
			case 1, 2:
				b.WriteByte('@')
			default:
				b.WriteByte(inProps[r.IntN(len(inProps)-r.IntN(3))])
			}
		}
		name := b.String()
		named(t, name, slowNode(name), slowProp(name))
		switch {
		case slowNode(name):
			right[0]++
		case slowProp(name):
			right[1]++
		default:
			right[2]++
		}
	}
	for k, many := range right {
		if many < 1000 {
			t.Errorf("%d names of kind %d", many, k)
		}
	}
}

func TestGm1CheckRight(t *testing.T) {
	for what, n := range map[string]api.Node{
		"nothing":                  {},
		"empty lists":              {Props: []api.Prop{}, Kids: []api.Node{}},
		"one of each":              with([]string{"#size-cells"}, []string{"cpu@0"}),
		"one name with units":      with(nil, []string{"cpu", "cpu@0", "cpu@1", "cpu@0,1"}),
		"letters differ":           with([]string{"a", "A"}, []string{"a", "A"}),
		"one begins another":       with([]string{"a", "ab", "abc"}, []string{"ab", "a", "abc"}),
		"properties and children":  with([]string{"a", "b"}, []string{"a", "b"}),
		"names of parents":         node("", api.Node{Name: "a", Props: props("a"), Kids: []api.Node{node("a", node("a"))}}),
		"names of cousins":         node("", node("a", node("c"), node("d")), node("b", node("c"), node("d"))),
		"any values":               {Props: []api.Prop{{Name: "a"}, {Name: "b", Value: "\x00/@"}, {Name: "c", Value: strings.Repeat("v", 1<<20)}}},
		"the longest names":        with([]string{strings.Repeat("?", 31)}, []string{strings.Repeat("n", 31), "n@" + strings.Repeat("0", 29)}),
		"as many nodes as may be":  with(nil, numbered("n", 63)),
		"as many properties":       with(numbered("p", 256), nil),
		"as many of both":          with(numbered("p", 256), numbered("p", 63)),
		"as many levels":           deep(6, node("k")),
		"properties at the bottom": deep(6, api.Node{Name: "k", Props: props(numbered("#", 256)...)}),
	} {
		checks(t, what, n, api.OK)
	}
}

func TestGm1CheckOneFault(t *testing.T) {
	for what, x := range map[string]struct {
		n    api.Node
		want api.Errno
	}{
		"nine levels":              {deep(7, node("k")), api.ErrDepth},
		"ten levels":               {deep(8, node("k")), api.ErrDepth},
		"many levels":              {deep(1<<16, node("k")), api.ErrDepth},
		"65 nodes":                 {with(nil, numbered("n", 64)), api.ErrBig},
		"65 nodes, not together":   {node("", called("x", with(nil, numbered("n", 31))), called("y", with(nil, numbered("n", 31)))), api.ErrBig},
		"257 properties":           {with(numbered("p", 257), nil), api.ErrBig},
		"257, not together":        {api.Node{Props: props(numbered("p", 256)...), Kids: []api.Node{{Name: "k", Props: props("p")}}}, api.ErrBig},
		"a root with a name":       {node("a"), api.ErrForm},
		"a root with a slash":      {node("/"), api.ErrForm},
		"a root with a byte 0":     {node("\x00"), api.ErrForm},
		"a property without name":  {with([]string{""}, nil), api.ErrForm},
		"a property with a unit":   {with([]string{"a@0"}, nil), api.ErrForm},
		"a property's long name":   {with([]string{strings.Repeat("p", 32)}, nil), api.ErrForm},
		"the last property":        {with([]string{"a", "b", "c/"}, nil), api.ErrForm},
		"a child without name":     {with(nil, []string{""}), api.ErrForm},
		"a child with a #":         {with(nil, []string{"#a"}), api.ErrForm},
		"a child with a slash":     {with(nil, []string{"a/b"}), api.ErrForm},
		"a child with two units":   {with(nil, []string{"a@0@1"}), api.ErrForm},
		"a child's long name":      {with(nil, []string{"n@" + strings.Repeat("0", 30)}), api.ErrForm},
		"the last child":           {with(nil, []string{"a", "b", "@0"}), api.ErrForm},
		"two properties":           {with([]string{"a", "a"}, nil), api.ErrExist},
		"the first and the last":   {with(append(numbered("p", 255), "p0"), nil), api.ErrExist},
		"three properties":         {with([]string{"a", "a", "a"}, nil), api.ErrExist},
		"two with other values":    {api.Node{Props: []api.Prop{{Name: "a", Value: "1"}, {Name: "b"}, {Name: "a", Value: "2"}}}, api.ErrExist},
		"two children":             {with(nil, []string{"a", "a"}), api.ErrExist},
		"two with units":           {with(nil, []string{"a@0", "a", "a@1", "a@0"}), api.ErrExist},
		"the first child again":    {with(nil, append(numbered("n", 62), "n0")), api.ErrExist},
		"two with other children":  {node("", node("a", node("b")), node("c"), node("a", node("d"))), api.ErrExist},
		"at the bottom, form":      {deep(6, api.Node{Name: "k", Props: props("a b")}), api.ErrForm},
		"at the bottom, exist":     {deep(6, api.Node{Name: "k", Props: props("a", "a")}), api.ErrExist},
		"at the bottom, a child":   {deep(6, node("a@")), api.ErrForm},
		"at the bottom, children":  {deep(5, api.Node{Name: "k", Kids: []api.Node{node("l"), node("l")}}), api.ErrExist},
		"two that have no name":    {with([]string{"", ""}, nil), api.ErrForm},
		"two children with slash":  {with(nil, []string{"/", "/"}), api.ErrForm},
		"the last node's property": {node("", node("a", node("b")), api.Node{Name: "c", Props: props("x", "x")}), api.ErrExist},
	} {
		checks(t, what, x.n, x.want)
	}
}

// Of several errors the first one is returned: those of the whole, that of the root, and then those of each node, in the order of Walk.
func TestGm1CheckOrder(t *testing.T) {
	// faults are put into a tree in the order in which Check finds them.
	faults := []struct {
		put  func(n *api.Node)
		want api.Errno
	}{
		{func(n *api.Node) { n.Kids[0].Kids[0].Kids = []api.Node{called("k", deep(4, node("k")))} }, api.ErrDepth},
		{func(n *api.Node) { n.Kids[1].Props = append(n.Kids[1].Props, props(numbered("p", 300)...)...) }, api.ErrBig},
		{func(n *api.Node) { n.Name = "root" }, api.ErrForm},
		{func(n *api.Node) { n.Props[1].Name = "e#/" }, api.ErrForm},
		{func(n *api.Node) { n.Props[2].Name = n.Props[0].Name }, api.ErrExist},
		{func(n *api.Node) { n.Kids[2].Name = "@0" }, api.ErrForm},
		{func(n *api.Node) { n.Kids[1].Name = n.Kids[0].Name }, api.ErrExist},
		{func(n *api.Node) { n.Kids[0].Props[1].Name = "" }, api.ErrForm},
		{func(n *api.Node) { n.Kids[0].Props[2].Name = n.Kids[0].Props[0].Name }, api.ErrExist},
		{func(n *api.Node) { n.Kids[0].Kids[2].Name = "9" }, api.ErrForm},
		{func(n *api.Node) { n.Kids[0].Kids[1].Name = n.Kids[0].Kids[0].Name }, api.ErrExist},
		{func(n *api.Node) { n.Kids[0].Kids[0].Props = props("a", "b", "a", "c", "?", "?", "\xff") }, api.ErrForm},
		{func(n *api.Node) { n.Kids[0].Kids[1].Props = props("a", "a") }, api.ErrExist},
		{func(n *api.Node) { n.Kids[0].Kids[2].Props = props(" ") }, api.ErrForm},
		{func(n *api.Node) { n.Kids[1].Props[2].Name = n.Kids[1].Props[0].Name }, api.ErrExist},
		{func(n *api.Node) { n.Kids[1].Kids = append(n.Kids[1].Kids, node("a"), node("a"), node("a@")) }, api.ErrForm},
		{func(n *api.Node) { n.Kids[2].Kids = append(n.Kids[2].Kids, node("a"), node("a")) }, api.ErrExist},
	}
	made := func(which ...int) api.Node {
		parent := func(name string) api.Node {
			return api.Node{Name: name, Props: props("x", "y", "z"), Kids: []api.Node{node("k@0"), node("k@1"), node("k@2")}}
		}
		n := parent("")
		n.Kids[0] = parent("k@0")
		n.Kids[1].Props = props("x", "y", "z")
		// The later ones first: what a fault is put into must not have been replaced.
		for _, k := range slices.Backward(which) {
			faults[k].put(&n)
		}
		return n
	}
	checks(t, "no fault", made(), api.OK)
	for a, first := range faults {
		checks(t, fmt.Sprint("fault ", a), made(a), first.want)
		for b := a + 1; b < len(faults); b++ {
			checks(t, fmt.Sprint("faults ", a, " and ", b), made(a, b), first.want)
			for c := b + 1; c < len(faults); c++ {
				checks(t, fmt.Sprint("faults ", a, ", ", b, " and ", c), made(a, b, c), first.want)
			}
		}
	}
	var all []int
	for a := range slices.Backward(faults) {
		all = slices.Insert(all, 0, a)
		checks(t, fmt.Sprint("all faults from ", a, " on"), made(all...), faults[a].want)
	}
}

// Of two names one is wrong, and is the same as another wrong one, or is not: the wrong ones come ahead, wherever they are.
func TestGm1CheckFormAheadOfExist(t *testing.T) {
	for _, l := range [][]string{{"a", "a", "/"}, {"a", "/", "a"}, {"/", "a", "a"}, {"/", "/", "a"}, {"a", "", ""}, {"", "a", ""}} {
		checks(t, fmt.Sprintf("properties %q", l), with(l, []string{"b", "b"}), api.ErrForm)
		checks(t, fmt.Sprintf("children %q", l), with([]string{"b"}, l), api.ErrForm)
		// The children of a node come after its properties, and what is below the first child after the last child.
		checks(t, fmt.Sprintf("children %q below", l), with([]string{"b", "c", "b"}, l), api.ErrExist)
		n := with(nil, l)
		n.Kids[0].Props = props("b", "b")
		checks(t, fmt.Sprintf("children %q, and below them", l), n, api.ErrForm)
	}
	n := with(nil, []string{"a", "b", "a"})
	n.Kids[0].Props = props("/")
	checks(t, "children, and below them", n, api.ErrExist)
	n = node("", node("a", node("c", node("/"))), api.Node{Name: "b", Props: props("x", "x")})
	checks(t, "deeper, ahead of the next child", n, api.ErrForm)
}

// A list that has itself as a child's is an argument, too.
func TestGm1CheckEnds(t *testing.T) {
	for many := 1; many <= 4; many++ {
		kids := make([]api.Node, many)
		for k := range kids {
			kids[k] = api.Node{Name: "k" + strconv.Itoa(k), Kids: kids}
		}
		if e := Check(api.Node{Kids: kids}); e != api.ErrDepth {
			t.Errorf("%d children: %d", many, e)
		}
	}
	// All nodes have names that begin with the same long one, so that their paths are longer by far.
	long := strings.Repeat("n", 1<<24)
	checkLong := func(n api.Node) {
		t.Helper()
		if e := Check(n); e != api.ErrForm {
			t.Errorf("%d", e)
		}
	}
	below := called(long, with(nil, numbered("n", 50)))
	checkLong(node("", below))
	checkLong(deep(5, below))
	checkLong(node("", node("a"), node(long, below)))
	checkLong(with([]string{long, long}, nil))
	checkLong(node(long))
}

func TestGm1ArgumentsAreUnchanged(t *testing.T) {
	propRoom := props("z", "y", "x", "a", "b", "c", "y", "behind")
	kidRoom := []api.Node{node("z"), node("y"), node("x"), node("a"), node("b"), node("y"), node("behind")}
	propsBefore, before := slices.Clone(propRoom), text(node("", kidRoom...))
	for many := range 7 {
		n := api.Node{Props: propRoom[:many], Kids: kidRoom[:min(many, 6)]}
		want := api.OK
		if many == 6 {
			want = api.ErrExist
		}
		for range 2 {
			if e := Check(n); e != want {
				t.Errorf("of %d: %d", many, e)
			}
		}
		if !slices.Equal(propRoom, propsBefore) || text(node("", kidRoom...)) != before {
			t.Fatalf("the lists became %v and %s", propRoom, text(node("", kidRoom...)))
		}
	}
}

// nearly is a random tree that has few faults, if any.
func nearly(r *rand.Rand, level, faults int) api.Node {
	var n api.Node
	for k := range r.IntN(5) {
		n.Props = append(n.Props, api.Prop{Name: []string{"p", "#p", "?", "0", "p,q"}[k] + strconv.Itoa(r.IntN(3))})
	}
	for range r.IntN(11 / level) {
		kid := nearly(r, level+1, faults)
		kid.Name = []string{"k", "K", "k-", "k@", "cpu@1,"}[r.IntN(5)] + strconv.Itoa(r.IntN(30))
		n.Kids = append(n.Kids, kid)
	}
	if r.IntN(100) < faults {
		l := [][]string{{"k0", "#p0", "", "k@"}, {"k0", "@0", "/", "a b"}}
		if len(n.Props) > 0 {
			n.Props[r.IntN(len(n.Props))].Name = l[0][r.IntN(4)]
		}
		if len(n.Kids) > 0 {
			n.Kids[r.IntN(len(n.Kids))].Name = l[1][r.IntN(4)]
		}
	}
	r.Shuffle(len(n.Props), func(a, b int) { n.Props[a], n.Props[b] = n.Props[b], n.Props[a] })
	return n
}

// randoms calls a function with many random trees, and tells how often Check returned each error.
func randoms(seed uint64, do func(n api.Node, e api.Errno)) map[api.Errno]int {
	r := rand.New(rand.NewPCG(19, seed))
	found := map[api.Errno]int{}
	for k := range 12000 {
		n := nearly(r, 1, k%4*5)
		switch r.IntN(40) {
		case 0:
			n.Name = "k"
		case 1:
			n = node("", node("k", node("k", node("k", node("k", n.Kids...)))))
		}
		e := Check(n)
		found[e]++
		do(n, e)
	}
	return found
}

func TestGm1BesideAPlainTelling(t *testing.T) {
	found := randoms(2, func(n api.Node, e api.Errno) {
		before := text(n)
		if want := slowCheck(n); e != want {
			t.Fatalf("Check of %s is %d, not %d", text(n), e, want)
		}
		if Check(n) != e || text(n) != before {
			t.Fatalf("Check changed %s", before)
		}
	})
	for _, e := range []api.Errno{api.OK, api.ErrDepth, api.ErrBig, api.ErrForm, api.ErrExist} {
		if found[e] < 100 {
			t.Errorf("error %d was returned %d times", e, found[e])
		}
	}
}

// findable fails unless each node of a tree without an error is found at its path, and each property by its name.
func findable(t *testing.T, n api.Node) {
	t.Helper()
	if e := Check(n); e != api.OK {
		t.Fatalf("Check of %s is %d", text(n), e)
	}
	spots := tree.Walk(n)
	if nodes, _, _ := tree.Count(n); len(spots) != nodes {
		t.Fatalf("%d of the nodes of %s have a path", len(spots), text(n))
	}
	seen := map[string]bool{}
	for _, x := range spots {
		found, ok := path.Find(n, x.Path)
		if !ok || !reflect.DeepEqual(found, x.Node) || seen[x.Path] {
			t.Fatalf("at %q of %s is %s, %v, not %s", x.Path, text(n), text(found), ok, text(x.Node))
		}
		seen[x.Path] = true
		for _, p := range x.Node.Props {
			if v, ok := path.Value(found, p.Name); !ok || v != p.Value {
				t.Fatalf("the value of %q at %q of %s is %q, %v", p.Name, x.Path, text(n), v, ok)
			}
		}
	}
}

func TestGm2(t *testing.T) {
	many := 0
	randoms(3, func(n api.Node, e api.Errno) {
		if e == api.OK {
			many++
			findable(t, n)
		}
	})
	if many < 2000 {
		t.Errorf("%d trees without an error", many)
	}
	for _, n := range []api.Node{
		{},
		with(numbered("p", 256), numbered("k", 63)),
		deep(6, api.Node{Name: "k", Props: props("k")}),
		deep(5, called("k", with(nil, numbered("k@", 50)))),
		node("", node("a", node("a", node("a"), node("b")), node("b")), node("b", node("a"))),
		node("", node("a"), node("ab"), node("a@0"), node("a@0,1"), node("A")),
		node("", node("a", node("bc")), node("ab", node("c"))),
	} {
		findable(t, n)
	}
}

// Where Check returns an error, there may be a node that is not found: the errors are not there for nothing.
func TestGm2OthersAreNotFound(t *testing.T) {
	for what, n := range map[string]api.Node{
		"a slash":     node("", node("a/b")),
		"no name":     node("", node("")),
		"the same":    node("", node("a"), api.Node{Name: "a", Props: props("p")}),
		"nine levels": deep(7, node("k")),
	} {
		found := 0
		for _, x := range tree.Walk(n) {
			if y, ok := path.Find(n, x.Path); ok && text(y) == text(x.Node) {
				found++
			}
		}
		nodes, _, _ := tree.Count(n)
		if found == nodes || Check(n) == api.OK {
			t.Errorf("%s: %d nodes are found, and Check is %d", what, found, Check(n))
		}
	}
}
