package part

import (
	"math"
	"slices"
	"strconv"
	"strings"
	"testing"

	"postilion/api"
	"postilion/guard"
	"postilion/nor"
)

// bytesOf are so many bytes of all values, in an order that does not repeat soon.
func bytesOf(n int) string {
	b := make([]byte, n)
	for i := range b {
		b[i] = byte(i*37 + i/256*11 + i/7)
	}
	return string(b)
}

// zeros are so many bytes without a bit.
func zeros(n int) string { return strings.Repeat("\x00", n) }

// full is a flash with bytes of all values.
func full() *nor.Chip { return nor.Load(bytesOf(api.FlashSize)) }

// same tells whether two flashes have the same bytes, power and operations.
func same(a, b *nor.Chip) bool {
	return a.Bytes() == b.Bytes() && a.On() == b.On() && a.Ops() == b.Ops()
}

// table is a table of parts that are valid.
func table(t *testing.T, l ...api.Part) *Table {
	t.Helper()
	p, e := New(l...)
	if e != api.OK || p == nil {
		t.Fatalf("New of %v: %v", l, e)
	}
	return p
}

// four are parts with gaps between them, in an order that is not that of their sectors: the first and the last sector, two that touch, and a long one.
func four() []api.Part {
	return []api.Part{{Name: "end", First: 46, Many: 2}, {Name: "low", First: 0, Many: 1}, {Name: "mid", First: 10, Many: 20}, {Name: "next", First: 30, Many: 3}}
}

// numbers are positions, lengths and sectors: ordinary ones, edges, and wrong ones.
func numbers() []int {
	l := []int{math.MinInt, math.MinInt + 1, -api.FlashSize, -1 << 32, -512, -2, -1, 1 << 31, 1 << 32, 1<<32 + 1, 1 << 54, 1<<55 - 1, 1 << 62, api.MaxInt - 1, api.MaxInt}
	for _, n := range []int{0, 2, 3, 20, api.Page, api.Sectors, api.Sector, 2 * api.Sector, 3 * api.Sector, 20 * api.Sector, 46 * api.Sector, api.FlashSize} {
		l = append(l, n, n+1)
		if n > 0 {
			l = append(l, n-1)
		}
	}
	return l
}

// inside tells whether n bytes from a position on are among so many.
func inside(at, n, many int) bool {
	return at >= 0 && at <= many && n >= 0 && n <= many && at+n <= many
}

// many are parts of one sector each, with names of their own.
func many(n int) []api.Part {
	var l []api.Part
	for i := range n {
		l = append(l, api.Part{Name: "p" + strconv.Itoa(i), First: 2*i + 1, Many: 1})
	}
	return l
}

func TestExample(t *testing.T) {
	p := table(t, api.Part{Name: "a", First: 4, Many: 2})
	if n := p.Size("a"); n != 1024 {
		t.Errorf("%d", n)
	}
}

func TestPa1NewOfValidParts(t *testing.T) {
	long := strings.Repeat("n", 31)
	for k, l := range [][]api.Part{
		nil,
		{},
		many(1),
		many(16),
		{{Name: "a", First: 0, Many: 48}},
		{{Name: "a", First: 47, Many: 1}},
		{{Name: "a", First: 0, Many: 1}},
		{{Name: "a", First: 46, Many: 2}, {Name: "b", First: 0, Many: 46}},
		{{Name: "a", First: 0, Many: 1}, {Name: "b", First: 1, Many: 1}, {Name: "c", First: 2, Many: 46}},
		{{Name: long, Many: 1}},
		{{Name: long, Many: 1}, {Name: long[1:], First: 1, Many: 1}},
		{{Name: long[1:] + "a", Many: 1}, {Name: long[1:] + "b", First: 1, Many: 1}},
		{{Name: " ", Many: 1}, {Name: "\x00", First: 1, Many: 1}, {Name: "\x00\x00", First: 2, Many: 1}, {Name: "\xff", First: 3, Many: 1}, {Name: "A", First: 4, Many: 1}, {Name: "a", First: 5, Many: 1}},
		four(),
	} {
		p, e := New(l...)
		if e != api.OK || p == nil || !slices.Equal(p.All(), l) {
			t.Errorf("case %d: %v", k, e)
		}
	}
}

func TestPa1NewOfOneWrongPart(t *testing.T) {
	for k, x := range []struct {
		p    api.Part
		want api.Errno
	}{
		{api.Part{}, api.ErrArg},
		{api.Part{Name: "", First: 1, Many: 1}, api.ErrArg},
		{api.Part{Name: strings.Repeat("n", 32), Many: 1}, api.ErrArg},
		{api.Part{Name: strings.Repeat("n", 10000), Many: 1}, api.ErrArg},
		{api.Part{Name: strings.Repeat("\u00e9", 16), Many: 1}, api.ErrArg}, // 16 letters, but 32 bytes
		{api.Part{Name: "a"}, api.ErrRange},
		{api.Part{Name: "a", First: 5, Many: -1}, api.ErrRange},
		{api.Part{Name: "a", First: 47, Many: math.MinInt}, api.ErrRange},
		{api.Part{Name: "a", First: -1, Many: 1}, api.ErrRange},
		{api.Part{Name: "a", First: -1, Many: 2}, api.ErrRange},
		{api.Part{Name: "a", First: -5, Many: 5}, api.ErrRange},
		{api.Part{Name: "a", First: math.MinInt, Many: 1}, api.ErrRange},
		{api.Part{Name: "a", First: math.MinInt, Many: math.MinInt}, api.ErrRange},
		{api.Part{Name: "a", First: math.MinInt, Many: api.MaxInt}, api.ErrRange},
		{api.Part{Name: "a", First: 0, Many: 49}, api.ErrRange},
		{api.Part{Name: "a", First: 1, Many: 48}, api.ErrRange},
		{api.Part{Name: "a", First: 47, Many: 2}, api.ErrRange},
		{api.Part{Name: "a", First: 48, Many: 1}, api.ErrRange},
		{api.Part{Name: "a", First: 48, Many: 0}, api.ErrRange},
		{api.Part{Name: "a", First: 49, Many: -1}, api.ErrRange},
		{api.Part{Name: "a", First: 1 << 62, Many: 1 << 62}, api.ErrRange},
		{api.Part{Name: "a", First: 1, Many: api.MaxInt}, api.ErrRange},
		{api.Part{Name: "a", First: api.MaxInt, Many: 1}, api.ErrRange},
		{api.Part{Name: "a", First: api.MaxInt, Many: api.MaxInt}, api.ErrRange},
	} {
		right := api.Part{Name: "right", First: 20, Many: 1}
		for at, l := range [][]api.Part{{x.p}, {x.p, right}, {right, x.p}} {
			if p, e := New(l...); e != x.want || p != nil {
				t.Errorf("case %d, way %d: %v, not %v", k, at, e, x.want)
			}
		}
	}
}

func TestPa1NewOfTooManyParts(t *testing.T) {
	for _, n := range []int{17, 18, 23, 1000} {
		if p, e := New(many(n)...); e != api.ErrArg || p != nil {
			t.Errorf("%d parts: %v", n, e)
		}
		if p, e := New(make([]api.Part, n)...); e != api.ErrArg || p != nil {
			t.Errorf("%d zero parts: %v", n, e)
		}
	}
}

func TestPa1NewOfTheSameName(t *testing.T) {
	long := strings.Repeat("n", 31)
	for k, l := range [][]api.Part{
		{{Name: "a", Many: 1}, {Name: "a", First: 5, Many: 1}},
		{{Name: "a", First: 5, Many: 1}, {Name: "a", Many: 1}},
		{{Name: "a", Many: 1}, {Name: "a", Many: 1}},
		{{Name: "a", Many: 1}, {Name: "b", First: 1, Many: 1}, {Name: "a", First: 2, Many: 1}},
		{{Name: "b", First: 1, Many: 1}, {Name: "a", Many: 1}, {Name: "a", First: 2, Many: 1}},
		{{Name: long, Many: 1}, {Name: long, First: 9, Many: 1}},
		append(many(15), api.Part{Name: "p0", First: 40, Many: 1}),
		append(many(15), api.Part{Name: "p14", First: 40, Many: 1}),
	} {
		if p, e := New(l...); e != api.ErrExist || p != nil {
			t.Errorf("case %d: %v", k, e)
		}
	}
}

// All pairs of parts of some sectors, and whether they have one in common, told sector by sector.
func TestPa1NewOfACommonSector(t *testing.T) {
	var l []api.Part
	for _, first := range []int{0, 1, 2, 3, 4, 20, 45, 46, 47} {
		for _, n := range []int{1, 2, 3, 4, 17, 28, 45, 48} {
			if first+n <= 48 {
				l = append(l, api.Part{Name: "a", First: first, Many: n})
			}
		}
	}
	for _, a := range l {
		for _, b := range l {
			b.Name = "b"
			want := api.OK
			for sector := range 48 {
				if sector >= a.First && sector < a.First+a.Many && sector >= b.First && sector < b.First+b.Many {
					want = api.ErrExist
				}
			}
			if p, e := New(a, b); e != want || (p == nil) != (e != api.OK) {
				t.Errorf("New of %v and %v: %v, not %v", a, b, e, want)
			}
		}
	}
	for sector := range 48 {
		one := api.Part{Name: "one", First: sector, Many: 1}
		want := api.OK
		if slices.Contains([]int{0, 46, 47}, sector) || sector >= 10 && sector < 33 {
			want = api.ErrExist
		}
		if _, e := New(append(four(), one)...); e != want {
			t.Errorf("sector %d behind others: %v, not %v", sector, e, want)
		}
		if _, e := New(append([]api.Part{one}, four()...)...); e != want {
			t.Errorf("sector %d ahead of others: %v, not %v", sector, e, want)
		}
	}
}

// The error that is named first is told, whichever part has it.
func TestPa1TheFirstErrorOfNew(t *testing.T) {
	right := api.Part{Name: "right", First: 20, Many: 1}
	noName := api.Part{First: 5, Many: 1}
	noSector := api.Part{Name: "none", First: 6}
	far := api.Part{Name: "right", First: 48, Many: 1} // the name is there twice, too
	for k, x := range []struct {
		l    []api.Part
		want api.Errno
	}{
		{[]api.Part{noName, noSector, right, right}, api.ErrArg},
		{[]api.Part{right, right, noSector, noName}, api.ErrArg},
		{[]api.Part{noSector, noName}, api.ErrArg},
		{[]api.Part{right, right, noName}, api.ErrArg},
		{[]api.Part{right, right, noSector}, api.ErrRange},
		{[]api.Part{noSector, right, right}, api.ErrRange},
		{[]api.Part{right, far}, api.ErrRange},
		{[]api.Part{far, right}, api.ErrRange},
		{[]api.Part{noSector, noSector}, api.ErrRange},
		{[]api.Part{right, right}, api.ErrExist},
		{append(many(17), noSector), api.ErrArg},
		{slices.Repeat([]api.Part{right}, 17), api.ErrArg},
		{slices.Repeat([]api.Part{noSector}, 17), api.ErrArg},
		{slices.Repeat([]api.Part{noSector}, 16), api.ErrRange},
		{slices.Repeat([]api.Part{right}, 16), api.ErrExist},
	} {
		if p, e := New(x.l...); e != x.want || p != nil {
			t.Errorf("case %d: %v, not %v", k, e, x.want)
		}
	}
}

func TestPa1AllAndFindAndSize(t *testing.T) {
	p := table(t, four()...)
	if !slices.Equal(p.All(), four()) || !slices.Equal(p.All(), four()) {
		t.Errorf("All is %v", p.All())
	}
	for _, want := range four() {
		got, ok := p.Find(want.Name)
		if got != want || !ok || p.Size(want.Name) != 512*want.Many {
			t.Errorf("%s is %v, %v, of %d bytes", want.Name, got, ok, p.Size(want.Name))
		}
	}
	for _, name := range []string{"", "en", "endd", "END", "Low", "low ", " low", "low\x00", "\x00", strings.Repeat("n", 32), "x"} {
		got, ok := p.Find(name)
		if got != (api.Part{}) || ok || p.Size(name) != 0 || len(p.Sectors(name)) != 0 {
			t.Errorf("%q is %v, %v, of %d bytes", name, got, ok, p.Size(name))
		}
	}
	if n := table(t, api.Part{Name: "all", Many: 48}).Size("all"); n != 24576 {
		t.Errorf("the whole flash has %d bytes", n)
	}
}

func TestPa1Sectors(t *testing.T) {
	p := table(t, four()...)
	for k, x := range []struct {
		names []string
		want  []int
	}{
		{nil, nil},
		{[]string{}, nil},
		{[]string{""}, nil},
		{[]string{"x", "y"}, nil},
		{[]string{"low"}, []int{0}},
		{[]string{"end"}, []int{46, 47}},
		{[]string{"next"}, []int{30, 31, 32}},
		{[]string{"low", "end", "next"}, []int{0, 46, 47, 30, 31, 32}},
		{[]string{"next", "end", "low"}, []int{30, 31, 32, 46, 47, 0}},
		{[]string{"end", "x", "low"}, []int{46, 47, 0}},
		{[]string{"x", "end", ""}, []int{46, 47}},
		{[]string{"end", "end", "low", "end"}, []int{46, 47, 46, 47, 0, 46, 47}},
		{[]string{"mid"}, []int{10, 11, 12, 13, 14, 15, 16, 17, 18, 19, 20, 21, 22, 23, 24, 25, 26, 27, 28, 29}},
	} {
		if got := p.Sectors(x.names...); !slices.Equal(got, x.want) {
			t.Errorf("case %d: %v, not %v", k, got, x.want)
		}
	}
}

func TestPa2Read(t *testing.T) {
	p := table(t, four()...)
	c := full()
	g := guard.New(c, 0, 11)
	all := c.Bytes()
	for _, x := range four() {
		for _, at := range numbers() {
			for _, n := range numbers() {
				s, e := p.Read(g, x.Name, at, n)
				switch {
				case !inside(at, n, x.Many*512):
					if s != "" || e != api.ErrRange {
						t.Fatalf("Read(%s, %d, %d) is %d bytes, %v", x.Name, at, n, len(s), e)
					}
				case e != api.OK || s != all[x.First*512+at:x.First*512+at+n]:
					t.Fatalf("Read(%s, %d, %d) is %d bytes, %v", x.Name, at, n, len(s), e)
				}
			}
		}
	}
	if !same(c, full()) {
		t.Error("Read changed the flash")
	}
}

// Each position and length is tried with flashes of their own, as one that is written changes its bytes.
func TestPa2Write(t *testing.T) {
	p := table(t, four()...)
	lengths := []int{0, 1, 31, 32, 33, 511, 512, 513, 1024, 1025, 1536, 1537, 10240, 10241, 24576, 24577}
	for _, x := range four() {
		for _, at := range numbers() {
			for _, n := range lengths {
				c, other := full(), full()
				want := api.ErrRange
				if inside(at, n, x.Many*512) {
					want = guard.New(other, 11, 30).Write(x.First*512+at, zeros(n))
				}
				if got := p.Write(guard.New(c, 11, 30), x.Name, at, zeros(n)); got != want || !same(c, other) {
					t.Fatalf("Write(%s, %d) of %d bytes: %v, not %v", x.Name, at, n, got, want)
				}
			}
		}
	}
}

func TestPa2Erase(t *testing.T) {
	p := table(t, four()...)
	for _, x := range four() {
		sectors := numbers()
		for sector := range 49 {
			sectors = append(sectors, sector, -sector)
		}
		for _, sector := range sectors {
			c, other := full(), full()
			want := api.ErrRange
			if sector >= 0 && sector < x.Many {
				want = guard.New(other, 11, 30).Erase(x.First + sector)
			}
			if got := p.Erase(guard.New(c, 11, 30), x.Name, sector); got != want || !same(c, other) {
				t.Errorf("Erase(%s, %d): %v, not %v", x.Name, sector, got, want)
			}
		}
	}
}

func TestPa2Edges(t *testing.T) {
	p := table(t, four()...)
	for k, x := range []struct {
		name  string
		at, n int
		write api.Errno
		read  api.Errno
	}{
		{"low", 0, 512, api.OK, api.OK},
		{"low", 0, 513, api.ErrRange, api.ErrRange},
		{"low", 511, 1, api.OK, api.OK},
		{"low", 511, 2, api.ErrRange, api.ErrRange},
		{"low", 512, 0, api.OK, api.OK}, // no bytes are there at the end
		{"low", 512, 1, api.ErrRange, api.ErrRange},
		{"low", 513, 0, api.ErrRange, api.ErrRange},
		{"low", -1, 0, api.ErrRange, api.ErrRange},
		{"low", -1, 1, api.ErrRange, api.ErrRange},
		{"next", -1, 2, api.ErrRange, api.ErrRange},
		{"end", 1024, 0, api.OK, api.OK}, // the end of the flash, too
		{"end", 1025, 0, api.ErrRange, api.ErrRange},
		{"end", 1023, 1, api.OK, api.OK},
		{"end", 0, 1024, api.OK, api.OK},
		{"end", 0, 1025, api.ErrRange, api.ErrRange},
		{"mid", 0, 10240, api.ErrProt, api.OK},
		{"mid", 511, 1, api.OK, api.OK},
		{"mid", 511, 2, api.ErrProt, api.OK},
		{"mid", 512, 0, api.OK, api.OK},
		{"mid", 0, 10241, api.ErrRange, api.ErrRange}, // ahead of ErrProt
		{"no", 0, 0, api.ErrNone, api.ErrNone},
		{"no", -1, 5, api.ErrNone, api.ErrNone}, // ahead of ErrRange
		{"", 0, 1, api.ErrNone, api.ErrNone},
		{"low", api.MaxInt, 1, api.ErrRange, api.ErrRange},
		{"end", math.MinInt, 1, api.ErrRange, api.ErrRange},
	} {
		g := guard.New(full(), 11)
		s, e := p.Read(g, x.name, x.at, x.n)
		if f := p.Write(g, x.name, x.at, zeros(x.n)); e != x.read || f != x.write || e != api.OK && s != "" {
			t.Errorf("case %d: %v and %v", k, e, f)
		}
	}
}

func TestPa2NoSuchPart(t *testing.T) {
	p := table(t, four()...)
	c := full()
	g := guard.New(c, 11)
	for _, name := range []string{"", "x", "en", "endd", "Low", strings.Repeat("n", 40)} {
		for _, n := range numbers() {
			a, e := p.Read(g, name, n, 0)
			b, f := p.Read(g, name, 0, n)
			if a != "" || b != "" || e != api.ErrNone || f != api.ErrNone || p.Write(g, name, n, "") != api.ErrNone || p.Write(g, name, n, "abc") != api.ErrNone || p.Erase(g, name, n) != api.ErrNone {
				t.Errorf("%q: something is done at %d", name, n)
			}
		}
	}
	if !same(c, full()) {
		t.Error("the flash changed")
	}
}

// What the table refuses does not reach the flash: neither its power nor its fuse has a say.
func TestPa2FuseAndPower(t *testing.T) {
	p := table(t, four()...)
	c := full()
	g := guard.New(c, 11)
	c.Fuse(1, "\x01\x00")
	if p.Erase(g, "low", 1) != api.ErrRange || p.Erase(g, "no", 0) != api.ErrNone || p.Erase(g, "mid", 1) != api.ErrProt || p.Write(g, "low", 500, zeros(13)) != api.ErrRange || !c.On() || c.Ops() != 0 {
		t.Error("what is refused is begun")
	}
	if p.Write(g, "low", 30, zeros(6)) != api.ErrPower || c.On() || c.Ops() != 2 {
		t.Errorf("the fuse: %v, %d", c.On(), c.Ops())
	}
	all := bytesOf(api.FlashSize)
	torn := string([]byte{0, 0, all[32] & 1, 0, all[34] & 1, 0}) // the first page is done, the second one torn
	if got := c.Bytes(); got != all[:30]+torn+all[36:] {
		t.Errorf("%x", got[28:40])
	}
	s, e := p.Read(g, "low", 0, 1)
	if s != "" || e != api.ErrPower || p.Write(g, "low", 0, "a") != api.ErrPower || p.Write(g, "low", 512, "") != api.ErrPower || p.Erase(g, "low", 0) != api.ErrPower {
		t.Errorf("without power something is done: %v", e)
	}
	s, e = p.Read(g, "low", 0, 513)
	if s != "" || e != api.ErrRange || p.Write(g, "low", 513, "") != api.ErrRange || p.Erase(g, "low", 1) != api.ErrRange || p.Erase(g, "x", 1) != api.ErrNone || p.Erase(g, "mid", 1) != api.ErrProt {
		t.Errorf("without power it is refused otherwise: %v", e)
	}
}

// Without power, too, it is the table that refuses what is not in a part.
func TestPa2RangeIsAskedAheadOfPower(t *testing.T) {
	p := table(t, four()...)
	for _, x := range four() {
		for _, at := range numbers() {
			for _, n := range numbers() {
				want := api.ErrRange
				if inside(at, n, x.Many*512) {
					want = api.ErrPower
				}
				if s, e := p.Read(nil, x.Name, at, n); s != "" || e != want {
					t.Fatalf("Read(%s, %d, %d) is %q, %v, not %v", x.Name, at, n, s, e, want)
				}
				if n < 0 || n > 30000 {
					continue
				}
				if e := p.Write(nil, x.Name, at, zeros(n)); e != want {
					t.Fatalf("Write(%s, %d) of %d bytes: %v, not %v", x.Name, at, n, e, want)
				}
			}
		}
	}
}

// A guard that has no flash is one without power.
func TestPa2NilAndZeroGuard(t *testing.T) {
	p := table(t, four()...)
	for k, g := range []*guard.Guard{nil, {}, guard.New(nil), guard.New(new(nor.Chip))} {
		s, e := p.Read(g, "low", 0, 1)
		if s != "" || e != api.ErrPower || p.Write(g, "low", 0, "a") != api.ErrPower || p.Erase(g, "low", 0) != api.ErrPower {
			t.Errorf("guard %d: %q, %v", k, s, e)
		}
		s, e = p.Read(g, "low", 1, 512)
		if s != "" || e != api.ErrRange || p.Write(g, "no", 0, "a") != api.ErrNone || p.Erase(g, "low", 1) != api.ErrRange {
			t.Errorf("guard %d: then %q, %v", k, s, e)
		}
	}
}

func TestPa2NilAndZeroTable(t *testing.T) {
	var none *Table
	var zero Table
	for k, p := range []*Table{none, &zero, new(Table), table(t)} {
		c := full()
		g := guard.New(c)
		for _, name := range []string{"", "a", "low", api.PartFirst} {
			if x, ok := p.Find(name); x != (api.Part{}) || ok || p.Size(name) != 0 || len(p.Sectors(name)) != 0 || len(p.Sectors(name, name)) != 0 {
				t.Errorf("table %d has %v", k, x)
			}
			for _, n := range numbers() {
				if s, e := p.Read(g, name, n, 0); s != "" || e != api.ErrNone || p.Write(g, name, n, "a") != api.ErrNone || p.Write(nil, name, n, "") != api.ErrNone || p.Erase(g, name, n) != api.ErrNone {
					t.Errorf("table %d: something is done at %d", k, n)
				}
			}
		}
		if len(p.All()) != 0 || len(p.Sectors()) != 0 || !same(c, full()) {
			t.Errorf("table %d: %v", k, p.All())
		}
	}
}

func TestR3ListsAreNotKept(t *testing.T) {
	l := append(four(), api.Part{Name: "more", First: 5, Many: 1})
	p := table(t, l[:4]...)
	if len(p.All()) != 4 || l[4].Name != "more" || !slices.Equal(l[:4], four()) {
		t.Errorf("%v", l)
	}
	clear(l)
	if !slices.Equal(p.All(), four()) || p.Size("mid") != 10240 {
		t.Errorf("the table changed with the list: %v", p.All())
	}
	all := p.All()
	all[0] = api.Part{Name: "other", First: 1, Many: 1}
	all = append(all[:1], all[2:]...)
	sectors := p.Sectors("end", "low")
	sectors[0] = 99
	if len(all) != 3 || !slices.Equal(p.All(), four()) || !slices.Equal(p.Sectors("end", "low"), []int{46, 47, 0}) {
		t.Errorf("the table changed with its answer: %v", p.All())
	}
	names := []string{"low", "end", "mid"}
	p.Sectors(names[:2]...)
	if !slices.Equal(names, []string{"low", "end", "mid"}) {
		t.Errorf("%v", names)
	}
}

func TestR4TablesAreApart(t *testing.T) {
	a, b := table(t, four()...), table(t, api.Part{Name: "low", First: 3, Many: 2})
	c := full()
	g := guard.New(c)
	if a.Size("low") != 512 || b.Size("low") != 1024 || b.Size("mid") != 0 || a.Erase(g, "low", 1) != api.ErrRange || b.Erase(g, "low", 1) != api.OK {
		t.Error("two tables are not apart")
	}
	other := full()
	if s, e := a.Read(guard.New(other), "low", 0, 5); e != api.OK || s != bytesOf(5) || other.Ops() != 0 || c.Ops() != 1 {
		t.Error("a table keeps a flash")
	}
	x := *a
	if !slices.Equal(x.All(), four()) || x.Size("end") != 1024 {
		t.Error("a copy of a table is another one")
	}
}

// dice is a row of numbers that looks like one of chance, but is always the same.
type dice uint32

// below is the next number of the row: from 0 to n-1.
func (d *dice) below(n int) int {
	*d = *d*1664525 + 1013904223
	return int(uint32(*d)>>8) % n
}

// some are up to n bytes.
func (d *dice) some(n int) string {
	b := make([]byte, d.below(n+1))
	for i := range b {
		b[i] = byte(d.below(256))
	}
	return string(b)
}

// parts are some that are valid, often without a gap between them, in an order of chance.
func (d *dice) parts() []api.Part {
	var l []api.Part
	for first := d.below(3); first < 48 && len(l) < 16; {
		p := api.Part{Name: "p" + strconv.Itoa(first), First: first, Many: min(1+d.below(6), 48-first)}
		l = slices.Insert(l, d.below(len(l)+1), p)
		first += p.Many + d.below(4)/2
	}
	return l
}

// step does one thing in a part of a flash, and the same, by positions of the flash, behind another guard; it tells what was answered, and what was to be answered.
func (d *dice) step(p *Table, x api.Part, g, free *guard.Guard) (got, want api.Errno) {
	want = api.ErrRange
	bytes := x.Many * 512
	if d.below(3) == 0 {
		sector := d.below(x.Many+4) - 2
		if sector >= 0 && sector < x.Many {
			want = free.Erase(x.First + sector)
		}
		return p.Erase(g, x.Name, sector), want
	}
	at, s := d.below(bytes+40)-20, d.some(100)
	switch d.below(4) {
	case 0:
		s = d.some(bytes + 100)
	case 1:
		at = bytes - len(s) + d.below(3) - 1
	}
	if inside(at, len(s), bytes) {
		want = free.Write(x.First*512+at, s)
	}
	return p.Write(g, x.Name, at, s), want
}

func TestPa3LongRuns(t *testing.T) {
	for seed := range 12 {
		d := dice(seed)
		l := d.parts()
		p := table(t, l...)
		locked := d.below(48)
		c, other := full(), full()
		g, free := guard.New(c, locked), guard.New(other, locked)
		for k := range 800 {
			x := l[d.below(len(l))]
			if d.below(6) == 0 {
				n, torn := d.below(12)-1, d.some(5)
				c.Power()
				other.Power()
				c.Fuse(n, torn)
				other.Fuse(n, torn)
			}
			before := c.Bytes()
			got, want := d.step(p, x, g, free)
			if got != want || !same(c, other) {
				t.Fatalf("run %d, step %d in %v: %v, not %v", seed, k, x, got, want)
			}
			now, from, to := c.Bytes(), x.First*512, (x.First+x.Many)*512
			if now[:from] != before[:from] || now[to:] != before[to:] {
				t.Fatalf("run %d, step %d: bytes outside of %v changed", seed, k, x)
			}
			if s, e := p.Read(g, x.Name, 0, p.Size(x.Name)); c.On() && (e != api.OK || s != now[from:to]) {
				t.Fatalf("run %d, step %d: %v is read as %d bytes, %v", seed, k, x, len(s), e)
			}
		}
	}
}

// Each part is filled and erased whole, with a fuse that tears each of the operations in turn: all that is beside it stays as it was.
func TestPa3BesideOtherParts(t *testing.T) {
	all := bytesOf(api.FlashSize)
	p := table(t, api.Part{Name: "a", First: 4, Many: 1}, api.Part{Name: "b", First: 5, Many: 2}, api.Part{Name: "c", First: 7, Many: 1})
	for _, x := range p.All() {
		from, to := x.First*512, (x.First+x.Many)*512
		for fuse := -1; fuse < 40; fuse++ {
			c := full()
			g := guard.New(c)
			c.Fuse(fuse, "\x01\xfe\x00")
			for i := -1; i <= x.Many; i++ {
				p.Erase(g, x.Name, i)
			}
			for _, at := range []int{-512, -1, 0, 1, 512} {
				p.Write(g, x.Name, at, zeros(x.Many*512))
			}
			now := c.Bytes()
			if now[:from] != all[:from] || now[to:] != all[to:] {
				t.Errorf("%s, a fuse of %d: bytes beside it changed", x.Name, fuse)
			}
			if fuse < 0 && now[from:to] != zeros(x.Many*512) {
				t.Errorf("%s is not filled", x.Name)
			}
		}
	}
}
