package guard

import (
	"math"
	"slices"
	"strings"
	"testing"

	"postilion/api"
	"postilion/nor"
)

// bytesOf are so many bytes of all values, in an order that does not repeat soon.
func bytesOf(n int) string {
	b := make([]byte, n)
	for i := range b {
		b[i] = byte(i*37 + i/256*11 + i/7)
	}
	return string(b)
}

// zeros are so many bytes without a bit.
func zeros(n int) string { return strings.Repeat("\x00", n) }

// full is a flash with bytes of all values.
func full() *nor.Chip { return nor.Load(bytesOf(api.FlashSize)) }

// twins are two flashes with the same bytes, the first one behind a guard.
func twins(sectors ...int) (g *Guard, c, free *nor.Chip) {
	c = full()
	return New(c, sectors...), c, full()
}

// same tells whether two flashes have the same bytes, power and operations.
func same(a, b *nor.Chip) bool {
	return a.Bytes() == b.Bytes() && a.On() == b.On() && a.Ops() == b.Ops()
}

// numbers are positions, lengths and sectors: ordinary ones, edges, and wrong ones.
func numbers() []int {
	l := []int{math.MinInt, math.MinInt + 1, -api.FlashSize, -1 << 32, -512, -33, -1, 1 << 31, 1 << 32, 1<<32 + 1, 1 << 62, api.MaxInt - 1, api.MaxInt}
	for _, n := range []int{0, api.Page, api.Sectors, api.Sector, 2 * api.Sector, 3 * api.Sector, 12000, 46 * api.Sector, 47 * api.Sector, api.FlashSize} {
		l = append(l, n, n+1, n+2)
		if n > 1 {
			l = append(l, n-2, n-1)
		}
	}
	return l
}

// hits tells, byte by byte, whether one of n bytes from a position on exists and is in one of some sectors.
func hits(at, n int, locked []int) bool {
	if at < 0 || at >= api.FlashSize {
		return false
	}
	for i := at; i < api.FlashSize && i-at < n; i++ {
		if slices.Contains(locked, i/512) {
			return true
		}
	}
	return false
}

func TestExample(t *testing.T) {
	c := full()
	if e := New(c, 0).Erase(0); e != api.ErrProt || !same(c, full()) {
		t.Errorf("%v", e)
	}
}

func TestGu1LockedSectors(t *testing.T) {
	lists := [][]int{nil, {}, {0}, {47}, {0, 47}, {5, 6, 7}, {7, 5, 7, 5}, {-1}, {48}, {-1, 48, 3}, numbers()}
	for _, l := range lists {
		g := New(full(), l...)
		for _, sector := range append(numbers(), 3, 5, 6, 7, 46) {
			if want := sector >= 0 && sector <= 47 && slices.Contains(l, sector); g.Locked(sector) != want {
				t.Errorf("New of %v: Locked(%d) is not %v", l, sector, want)
			}
		}
	}
	var every []int
	for sector := range 48 {
		every = append(every, sector)
	}
	if g := New(full(), every...); !g.Locked(every...) || g.Locked(append(every, 48)...) {
		t.Error("all sectors are not all that is locked")
	}
}

func TestGu1LockedAsksForAll(t *testing.T) {
	g := New(full(), 1, -4, 20, 47, 48)
	for _, x := range []struct {
		ask  []int
		want bool
	}{{nil, false}, {[]int{}, false}, {[]int{1}, true}, {[]int{1, 47}, true}, {[]int{47, 20, 1}, true}, {[]int{1, 1, 1}, true}, {[]int{1, 2}, false}, {[]int{2, 1}, false}, {[]int{1, 2, 47}, false}, {[]int{0}, false}, {[]int{-4}, false}, {[]int{1, -4}, false}, {[]int{48}, false}, {[]int{48, 1}, false}, {[]int{1, math.MaxInt}, false}, {[]int{math.MinInt, 1}, false}} {
		if g.Locked(x.ask...) != x.want {
			t.Errorf("Locked of %v is not %v", x.ask, x.want)
		}
	}
	if New(full()).Locked() || New(full()).Locked(0) {
		t.Error("something is locked where nothing was passed")
	}
}

func TestGu1Erase(t *testing.T) {
	locked := []int{0, 3, 4, 47}
	g, c, free := twins(locked...)
	sectors := numbers()
	for sector := range 48 {
		sectors = append(sectors, sector)
	}
	for _, sector := range sectors {
		got := g.Erase(sector)
		want := api.ErrProt
		if !slices.Contains(locked, sector) {
			want = free.Erase(sector)
		}
		if got != want || !same(c, free) {
			t.Errorf("Erase(%d) is %v, not %v", sector, got, want)
		}
	}
}

// Each position and length is tried with flashes of their own, as one that is free changes its bytes.
func TestGu1ProgramAndWrite(t *testing.T) {
	lengths := []int{0, 1, 2, 31, 32, 33, 511, 512, 513, 1024, 1025, 24576, 24577, 30000}
	for _, locked := range [][]int{{}, {1}, {0, 2}, {46}, {47}, {-1, 48}} {
		for _, at := range numbers() {
			for _, n := range lengths {
				s := zeros(n)
				for k := range 2 {
					g, c, free := twins(locked...)
					do, other := g.Program, free.Program
					if k == 1 {
						do, other = g.Write, free.Write
					}
					got := do(at, s)
					want := api.ErrProt
					if !hits(at, n, locked) {
						want = other(at, s)
					}
					if got != want || !same(c, free) {
						t.Fatalf("%v is locked; way %d, %d bytes from %d on: %v, not %v", locked, k, n, at, got, want)
					}
				}
			}
		}
	}
}

func TestGu1Edges(t *testing.T) {
	for k, x := range []struct {
		at, n   int
		program api.Errno
		write   api.Errno
	}{
		{511, 1, api.OK, api.OK},
		{511, 2, api.ErrProt, api.ErrProt},
		{512, 0, api.ErrArg, api.OK}, // no byte, so none that is locked
		{512, 1, api.ErrProt, api.ErrProt},
		{1023, 1, api.ErrProt, api.ErrProt},
		{1023, 2, api.ErrProt, api.ErrProt},
		{1024, 1, api.OK, api.OK},
		{0, 513, api.ErrProt, api.ErrProt}, // ahead of ErrArg
		{0, 512, api.ErrArg, api.OK},
		{24063, 600, api.ErrProt, api.ErrProt}, // ahead of ErrRange: some of its bytes exist
		{24575, 2, api.ErrProt, api.ErrProt},
		{24576, 0, api.ErrArg, api.OK},
		{24576, 1, api.ErrRange, api.ErrRange},
		{24577, 0, api.ErrArg, api.ErrRange},
		{-1, 2, api.ErrRange, api.ErrRange},
		{-1, 1000, api.ErrArg, api.ErrRange}, // a negative position reaches no locked sector
		{math.MaxInt, 32, api.ErrRange, api.ErrRange},
		{math.MinInt, 32, api.ErrRange, api.ErrRange},
	} {
		g := New(full(), 1, 47)
		if a, b := g.Program(x.at, zeros(x.n)), g.Write(x.at, zeros(x.n)); a != x.program || b != x.write {
			t.Errorf("case %d: %v and %v", k, a, b)
		}
	}
}

func TestGu1ReadOnAndOps(t *testing.T) {
	g, c, _ := twins(0, 1, 47)
	for _, at := range numbers() {
		for _, n := range numbers() {
			got, e := g.Read(at, n)
			want, f := c.Read(at, n)
			if got != want || e != f {
				t.Fatalf("Read(%d, %d) is %d bytes, %v", at, n, len(got), e)
			}
		}
	}
	if s, e := g.Read(500, 600); e != api.OK || s != bytesOf(api.FlashSize)[500:1100] {
		t.Errorf("what is locked cannot be read: %v", e)
	}
	if !g.On() || g.Ops() != 0 {
		t.Errorf("%v, %d", g.On(), g.Ops())
	}
	if g.Erase(0) != api.ErrProt || g.Erase(2) != api.OK || g.Write(1024, zeros(64)) != api.OK || g.Ops() != 3 || c.Ops() != 3 {
		t.Errorf("%d operations, %d of them of the flash", g.Ops(), c.Ops())
	}
}

// A refusal of the guard comes ahead of each error of the flash, and does not use up its fuse.
func TestGu1FuseAndPower(t *testing.T) {
	c := full()
	g := New(c, 1)
	c.Fuse(1, "\x01\x00")
	if g.Erase(1) != api.ErrProt || g.Write(512, "a") != api.ErrProt || g.Program(512, "a") != api.ErrProt || !g.On() || g.Ops() != 0 {
		t.Error("what is refused is begun")
	}
	if g.Erase(2) != api.OK || g.Erase(3) != api.ErrPower || g.On() || g.Ops() != 2 {
		t.Errorf("the fuse: %v, %d", g.On(), g.Ops())
	}
	if g.Erase(1) != api.ErrProt || g.Write(512, "a") != api.ErrProt || g.Program(500, zeros(40)) != api.ErrProt {
		t.Error("without power it is not refused as locked")
	}
	if g.Erase(2) != api.ErrPower || g.Write(0, "a") != api.ErrPower || g.Write(512, "") != api.ErrPower || g.Program(0, "a") != api.ErrPower || g.Program(-1, "a") != api.ErrPower {
		t.Error("without power something is done")
	}
	if s, e := g.Read(0, 1); s != "" || e != api.ErrPower {
		t.Errorf("Read is %q, %v", s, e)
	}
	c.Power()
	if !g.On() || g.Erase(2) != api.OK || !g.Locked(1) || g.Locked(2) {
		t.Error("the power is not on again")
	}
}

func TestGu1NilAndZeroGuard(t *testing.T) {
	var none *Guard
	var zero Guard
	for k, g := range []*Guard{none, &zero, {}, New(nil), New(new(nor.Chip))} {
		if g.On() || g.Ops() != 0 || g.Locked() || g.Locked(0) || g.Locked(0, 47) {
			t.Errorf("guard %d: %v, %d", k, g.On(), g.Ops())
		}
		for _, n := range numbers() {
			s, e := g.Read(n, 0)
			if s != "" || e != api.ErrPower || g.Locked(n) || g.Erase(n) != api.ErrPower || g.Program(n, "") != api.ErrPower || g.Program(n, "a") != api.ErrPower || g.Write(n, "") != api.ErrPower || g.Write(n, zeros(99)) != api.ErrPower {
				t.Errorf("guard %d: something is done at %d", k, n)
			}
		}
		if g.On() || g.Ops() != 0 {
			t.Errorf("guard %d: then %v, %d", k, g.On(), g.Ops())
		}
	}
}

func TestGu1LocksOfANilFlash(t *testing.T) {
	g := New(nil, 1)
	if !g.Locked(1) || g.Erase(1) != api.ErrProt || g.Write(1023, "ab") != api.ErrProt || g.Erase(0) != api.ErrPower || g.Write(0, "a") != api.ErrPower || g.On() || g.Ops() != 0 {
		t.Error("it is not a guard of a flash without power")
	}
}

func TestR3TheListIsNotKept(t *testing.T) {
	l := []int{4, 5, 6}
	kept := slices.Clone(l)
	g := New(full(), l[:2]...)
	if !g.Locked(l[:2]...) || g.Locked(l...) || !slices.Equal(l, kept) {
		t.Errorf("%v", l)
	}
	l[0], l[1] = 9, 9
	if !g.Locked(4, 5) || g.Locked(9) || g.Erase(4) != api.ErrProt || g.Erase(9) != api.OK {
		t.Error("the guard changed with the list")
	}
}

func TestR4GuardsAreApart(t *testing.T) {
	c := full()
	a, b := New(c, 1), New(c, 2)
	if a.Locked(2) || b.Locked(1) || a.Erase(1) != api.ErrProt || b.Erase(2) != api.ErrProt || a.Erase(2) != api.OK || b.Erase(1) != api.OK || a.Ops() != 2 || b.Ops() != 2 {
		t.Error("two guards of one flash are not apart")
	}
	other := New(full(), 1)
	if s, e := other.Read(512, 512); e != api.OK || s != bytesOf(api.FlashSize)[512:1024] || other.Ops() != 0 {
		t.Error("two flashes are not apart")
	}
}

// dice is a row of numbers that looks like one of chance, but is always the same.
type dice uint32

// below is the next number of the row: from 0 to n-1.
func (d *dice) below(n int) int {
	*d = *d*1664525 + 1013904223
	return int(uint32(*d)>>8) % n
}

// some are up to n bytes.
func (d *dice) some(n int) string {
	b := make([]byte, d.below(n+1))
	for i := range b {
		b[i] = byte(d.below(256))
	}
	return string(b)
}

// at is a position that is mostly in the flash, and often near the border of a sector.
func (d *dice) at() int {
	if d.below(2) == 0 {
		return d.below(50)*512 + d.below(80) - 40
	}
	return d.below(api.FlashSize+200) - 100
}

// step does one thing with a guarded flash and with a free one, where it is not refused; it tells what was answered, and what was to be answered.
func (d *dice) step(g *Guard, c, free *nor.Chip, locked []int) (got, want api.Errno) {
	want = api.ErrProt
	switch d.below(9) {
	case 0, 1, 2:
		sector := d.below(52) - 2
		if !slices.Contains(locked, sector) || sector < 0 || sector > 47 {
			want = free.Erase(sector)
		}
		return g.Erase(sector), want
	case 3, 4:
		at, s := d.at(), d.some(34)
		if !hits(at, len(s), locked) {
			want = free.Program(at, s)
		}
		return g.Program(at, s), want
	case 5, 6:
		at, s := d.at(), d.some(1500)
		if !hits(at, len(s), locked) {
			want = free.Write(at, s)
		}
		return g.Write(at, s), want
	case 7:
		n, torn := d.below(12)-1, d.some(5)
		c.Fuse(n, torn)
		free.Fuse(n, torn)
		return api.OK, api.OK
	}
	c.Power()
	free.Power()
	return api.OK, api.OK
}

func TestGu2LongRuns(t *testing.T) {
	all := bytesOf(api.FlashSize)
	for seed := range 8 {
		d := dice(seed)
		var locked []int
		for range 1 + 3*seed {
			locked = append(locked, d.below(52)-2)
		}
		g, c, free := twins(locked...)
		for k := range 1500 {
			if got, want := d.step(g, c, free, locked); got != want || !same(c, free) || g.On() != c.On() || g.Ops() != c.Ops() {
				t.Fatalf("run %d, step %d: %v, not %v", seed, k, got, want)
			}
			for _, sector := range locked {
				if sector >= 0 && sector <= 47 && c.Bytes()[sector*512:sector*512+512] != all[sector*512:sector*512+512] {
					t.Fatalf("run %d, step %d: the locked sector %d changed", seed, k, sector)
				}
			}
		}
	}
}

// A torn operation beside a locked sector stays beside it.
func TestGu2TornBesideALockedSector(t *testing.T) {
	all := bytesOf(api.FlashSize)
	for fuse := range 20 {
		c := full()
		g := New(c, 1, 3)
		c.Fuse(fuse, "\x01\xfe")
		g.Erase(2)
		g.Write(1024, zeros(512))
		if now := c.Bytes(); now[512:1024] != all[512:1024] || now[1536:2048] != all[1536:2048] || now[:512] != all[:512] {
			t.Errorf("a fuse of %d changed other sectors", fuse)
		}
	}
}
