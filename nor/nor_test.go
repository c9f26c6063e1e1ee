package nor

import (
	"bytes"
	"math"
	"strings"
	"testing"

	"postilion/api"
)

// bytesOf are so many bytes of all values, in an order that does not repeat soon.
func bytesOf(n int) string {
	b := make([]byte, n)
	for i := range b {
		b[i] = byte(i*37 + i/256*11 + i/7)
	}
	return string(b)
}

// ones are so many bytes of an erased flash.
func ones(n int) string { return strings.Repeat("\xff", n) }

// zeros are so many bytes without a bit.
func zeros(n int) string { return strings.Repeat("\x00", n) }

// with is a string whose bytes from a position on are others.
func with(s string, at int, part string) string { return s[:at] + part + s[at+len(part):] }

// full is a flash with bytes of all values.
func full() *Chip { return Load(bytesOf(api.FlashSize)) }

// off is a flash with bytes of all values whose power went, in an operation that changed nothing.
func off(t *testing.T) *Chip {
	t.Helper()
	c := full()
	c.Fuse(0, "")
	if e := c.Erase(3); e != api.ErrPower || c.On() || c.Ops() != 1 || c.Bytes() != bytesOf(api.FlashSize) {
		t.Fatalf("%v, %v, %d", e, c.On(), c.Ops())
	}
	return c
}

// numbers are positions and lengths: ordinary ones, edges, and wrong ones.
func numbers() []int {
	l := []int{math.MinInt, math.MinInt + 1, -api.FlashSize, -1 << 32, -33, -32, -1, 1 << 31, 1 << 32, 1<<32 + 1, 1 << 62, api.MaxInt - 1, api.MaxInt}
	for _, n := range []int{0, api.Page, api.Sectors, api.Sector, 1000, api.FlashSize / 2, api.FlashSize - api.Sector, api.FlashSize - api.Page, api.FlashSize} {
		l = append(l, n, n+1, n+2)
		if n > 1 {
			l = append(l, n-2, n-1)
		}
	}
	return l
}

// isThere tells whether so many bytes from a position on exist.
func isThere(at, n int) bool {
	return at >= 0 && at <= api.FlashSize && n >= 0 && n <= api.FlashSize && at+n <= api.FlashSize
}

func TestExample(t *testing.T) {
	c := New()
	if c.Program(7, "\x0f") != api.OK || c.Program(7, "\xf3") != api.OK || c.Bytes()[7] != 0x03 {
		t.Errorf("%x", c.Bytes()[7])
	}
}

func TestTermsTheSizesOfAFlash(t *testing.T) {
	if api.FlashSize != 24576 || api.Sectors != 48 || api.Sector != 512 || api.Page != 32 {
		t.Error("the limits are others")
	}
}

func TestNo1New(t *testing.T) {
	c := New()
	if c.Bytes() != ones(24576) || !c.On() || c.Ops() != 0 {
		t.Errorf("%d bytes, %v, %d", len(c.Bytes()), c.On(), c.Ops())
	}
	for sector := range 48 {
		if e := c.Erase(sector); e != api.OK {
			t.Errorf("there is a fuse at sector %d: %v", sector, e)
		}
	}
	if !c.On() || c.Ops() != 48 || c.Bytes() != ones(24576) {
		t.Errorf("%v, %d", c.On(), c.Ops())
	}
}

func TestNo1Load(t *testing.T) {
	for _, n := range []int{0, 1, 31, 32, 33, 511, 512, 513, 24575, 24576, 24577, 25088, 100000} {
		s := bytesOf(n)
		c := Load(s)
		if want := (s + ones(24576))[:24576]; c.Bytes() != want || !c.On() || c.Ops() != 0 {
			t.Errorf("of %d bytes: %v, %d", n, c.On(), c.Ops())
		}
		if c.Erase(47) != api.OK || c.Erase(0) != api.OK || c.Ops() != 2 || !c.On() {
			t.Errorf("of %d bytes: there is a fuse", n)
		}
	}
}

func TestNo1Read(t *testing.T) {
	c := full()
	all := bytesOf(api.FlashSize)
	for _, at := range numbers() {
		for _, n := range numbers() {
			got, e := c.Read(at, n)
			if !isThere(at, n) {
				if got != "" || e != api.ErrRange {
					t.Errorf("Read(%d, %d) is %d bytes, %v", at, n, len(got), e)
				}
			} else if got != all[at:at+n] || e != api.OK {
				t.Errorf("Read(%d, %d) is %d other bytes, %v", at, n, len(got), e)
			}
		}
	}
	if c.Bytes() != all || !c.On() || c.Ops() != 0 {
		t.Error("Read changed something")
	}
}

func TestNo1ReadAtTheEnd(t *testing.T) {
	c := full()
	for _, x := range []struct {
		at, n int
		e     api.Errno
	}{{0, 24576, api.OK}, {24576, 0, api.OK}, {24575, 1, api.OK}, {24575, 2, api.ErrRange}, {24577, 0, api.ErrRange}, {24576, 1, api.ErrRange}, {1, 24576, api.ErrRange}, {24577, -1, api.ErrRange}, {-1, 0, api.ErrRange}, {-1, 2, api.ErrRange}, {0, -1, api.ErrRange}, {5, -5, api.ErrRange}} {
		if s, e := c.Read(x.at, x.n); e != x.e || e == api.OK && len(s) != x.n || e != api.OK && s != "" {
			t.Errorf("Read(%d, %d) is %d bytes, %v", x.at, x.n, len(s), e)
		}
	}
}

func TestNo1WithoutPower(t *testing.T) {
	c := off(t)
	for _, at := range numbers() {
		for _, n := range numbers() {
			if s, e := c.Read(at, n); s != "" || e != api.ErrPower {
				t.Errorf("Read(%d, %d) is %d bytes, %v", at, n, len(s), e)
			}
		}
	}
	if c.On() || c.Ops() != 1 || c.Bytes() != bytesOf(api.FlashSize) {
		t.Errorf("%v, %d", c.On(), c.Ops())
	}
}

func TestNo1OpsAreThoseBegun(t *testing.T) {
	c := New()
	steps := []struct {
		do    func() api.Errno
		e     api.Errno
		begun int
	}{
		{func() api.Errno { return c.Erase(0) }, api.OK, 1},
		{func() api.Errno { return c.Erase(48) }, api.ErrRange, 0},
		{func() api.Errno { return c.Erase(-1) }, api.ErrRange, 0},
		{func() api.Errno { return c.Program(0, "a") }, api.OK, 1},
		{func() api.Errno { return c.Program(0, "") }, api.ErrArg, 0},
		{func() api.Errno { return c.Program(31, "ab") }, api.ErrArg, 0},
		{func() api.Errno { return c.Program(-1, "a") }, api.ErrRange, 0},
		{func() api.Errno { return c.Write(0, "") }, api.OK, 0},
		{func() api.Errno { return c.Write(31, "ab") }, api.OK, 2},
		{func() api.Errno { return c.Write(64, ones(320)) }, api.OK, 10},
		{func() api.Errno { return c.Write(24575, "ab") }, api.ErrRange, 0},
		{func() api.Errno { _, e := c.Read(0, 100); return e }, api.OK, 0},
		{func() api.Errno { c.Fuse(2, "x"); return c.Write(0, ones(320)) }, api.ErrPower, 3},
		{func() api.Errno { return c.Erase(0) }, api.ErrPower, 0},
		{func() api.Errno { return c.Program(0, "a") }, api.ErrPower, 0},
		{func() api.Errno { return c.Write(0, "abc") }, api.ErrPower, 0},
		{func() api.Errno { c.Power(); return c.Erase(1) }, api.OK, 1},
	}
	for k, x := range steps {
		before := c.Ops()
		if e := x.do(); e != x.e || c.Ops() != before+x.begun {
			t.Errorf("step %d: %v, %d begun", k, e, c.Ops()-before)
		}
	}
}

func TestNo2EraseEachSector(t *testing.T) {
	all := bytesOf(api.FlashSize)
	for sector := range 48 {
		c := full()
		if e := c.Erase(sector); e != api.OK || c.Bytes() != with(all, sector*512, ones(512)) {
			t.Errorf("of sector %d: %v", sector, e)
		}
	}
}

func TestNo2EraseOfNoSector(t *testing.T) {
	c := full()
	for _, sector := range numbers() {
		if sector >= 0 && sector <= 47 {
			continue
		}
		if e := c.Erase(sector); e != api.ErrRange {
			t.Errorf("Erase(%d) is %v", sector, e)
		}
	}
	if c.Bytes() != bytesOf(api.FlashSize) || c.Ops() != 0 || !c.On() {
		t.Error("something changed")
	}
}

func TestNo2ProgramOfAllBytes(t *testing.T) {
	for old := range 256 {
		c := Load(string([]byte{1, byte(old), 2}))
		for s := range 256 {
			d := *c
			e := d.Program(1, string([]byte{byte(s)}))
			if got := d.Bytes()[:3]; e != api.OK || got != string([]byte{1, byte(old) & byte(s), 2}) {
				t.Fatalf("%x over %x: %q, %v", s, old, got, e)
			}
		}
	}
}

func TestNo2ProgramOfAPage(t *testing.T) {
	all := bytesOf(api.FlashSize)
	s := "\x0f\xf0\x55\xaa" + bytesOf(28)
	for _, page := range []int{0, 1, 15, 16, 400, 767} {
		for from := range 32 {
			for n := 1; n <= 32; n++ {
				c := full()
				at := page*32 + from
				e := c.Program(at, s[:n])
				if from+n > 32 {
					want := api.ErrArg
					if at+n > 24576 {
						want = api.ErrRange
					}
					if e != want || c.Bytes() != all || c.Ops() != 0 {
						t.Errorf("%d bytes from %d on: %v", n, at, e)
					}
					continue
				}
				part := []byte(all[at : at+n])
				for i := range part {
					part[i] &= s[i]
				}
				if e != api.OK || c.Bytes() != with(all, at, string(part)) || c.Ops() != 1 {
					t.Errorf("%d bytes from %d on: %v", n, at, e)
				}
			}
		}
	}
}

func TestNo2ProgramErrorsInOrder(t *testing.T) {
	c := full()
	for _, at := range numbers() {
		for _, n := range []int{0, 1, 2, 31, 32, 33, 64, 512, 24576, 24577} {
			var want api.Errno
			switch {
			case n == 0 || n > 32:
				want = api.ErrArg
			case !isThere(at, n):
				want = api.ErrRange
			case at/32 != (at+n-1)/32:
				want = api.ErrArg
			}
			if got := c.Program(at, ones(n)); got != want {
				t.Errorf("%d bytes from %d on: %v, not %v", n, at, got, want)
			}
		}
	}
	if c.Bytes() != bytesOf(api.FlashSize) || !c.On() {
		t.Error("something changed")
	}
}

func TestNo2WriteIsProgramPageByPage(t *testing.T) {
	all := bytesOf(api.FlashSize)
	for _, at := range []int{0, 1, 16, 31, 32, 33, 500, 511, 512, 24000} {
		for _, n := range []int{0, 1, 15, 16, 17, 31, 32, 33, 63, 64, 65, 100, 512, 513, 576} {
			s := bytesOf(n + 9)[9:]
			part := []byte(all[at : at+n])
			pages := map[int]int{}
			for i := range part {
				part[i] &= s[i]
				pages[(at+i)/32]++
			}
			c := full()
			if e := c.Write(at, s); e != api.OK || c.Bytes() != with(all, at, string(part)) || c.Ops() != len(pages) || !c.On() {
				t.Errorf("%d bytes from %d on: %v, %d operations for %d pages", n, at, e, c.Ops(), len(pages))
			}
		}
	}
	c := New()
	if e := c.Write(0, all); e != api.OK || c.Bytes() != all || c.Ops() != 768 {
		t.Errorf("all bytes: %v, %d operations", e, c.Ops())
	}
}

func TestNo2WriteErrors(t *testing.T) {
	for _, at := range numbers() {
		for _, n := range []int{0, 1, 2, 32, 33, 513, 24575, 24576, 24577, 30000} {
			c := New()
			want := api.ErrRange
			if isThere(at, n) {
				want = api.OK
			}
			if got := c.Write(at, zeros(n)); got != want {
				t.Errorf("%d bytes from %d on: %v, not %v", n, at, got, want)
			}
			if want == api.ErrRange && (c.Bytes() != ones(24576) || c.Ops() != 0) {
				t.Errorf("%d bytes from %d on: refused, but something changed", n, at)
			}
		}
	}
}

func TestNo2WriteEndsWithTheFirstError(t *testing.T) {
	const at, n = 20, 100 // 12, 32, 32 and 24 bytes
	ends := []int{20, 32, 64, 96, 120}
	for fuse := range 6 {
		c := New()
		c.Fuse(fuse, "")
		e := c.Write(at, zeros(n))
		wantError, wantOps, end := api.ErrPower, fuse+1, 120
		if fuse >= 4 {
			wantError, wantOps = api.OK, 4
		} else {
			end = ends[fuse]
		}
		if want := with(ones(24576), at, zeros(end-at)); e != wantError || c.Bytes() != want || c.Ops() != wantOps || c.On() != (e == api.OK) {
			t.Errorf("a fuse of %d: %v, %d operations, %v", fuse, e, c.Ops(), c.On())
		}
	}
}

func TestNo3SoManyOperationsAreDone(t *testing.T) {
	for _, fuse := range []int{0, 1, 2, 5, 30} {
		c := full()
		c.Fuse(fuse, "")
		for k := range fuse {
			do := func() api.Errno { return c.Program(k, "\x00") }
			if k%2 == 0 {
				do = func() api.Errno { return c.Erase(47 - k) }
			}
			if e := do(); e != api.OK || !c.On() || c.Ops() != k+1 {
				t.Errorf("a fuse of %d, operation %d: %v, %v", fuse, k, e, c.On())
			}
			// What is refused, and what is no operation, must not bring the fuse nearer.
			if c.Program(31, "ab") != api.ErrArg || c.Erase(48) != api.ErrRange || c.Write(24576, "") != api.OK || c.Write(0, ones(24577)) != api.ErrRange {
				t.Errorf("a fuse of %d, operation %d: something else is not refused", fuse, k)
			}
			if _, e := c.Read(0, 9); e != api.OK {
				t.Errorf("a fuse of %d, operation %d: Read %v", fuse, k, e)
			}
		}
		before := c.Bytes()
		if e := c.Erase(20); e != api.ErrPower || c.On() || c.Ops() != fuse+1 || c.Bytes() != before {
			t.Errorf("a fuse of %d: %v, %v, %d", fuse, e, c.On(), c.Ops())
		}
	}
}

func TestNo3AFuseIsGoneAfterItsOperation(t *testing.T) {
	c := off(t)
	c.Power()
	for sector := range 48 {
		if e := c.Erase(sector); e != api.OK || !c.On() {
			t.Fatalf("sector %d: %v", sector, e)
		}
	}
}

func TestNo3PowerRemovesTheFuse(t *testing.T) {
	for _, fuse := range []int{0, 1, 3} {
		c := New()
		c.Fuse(fuse, "\x01")
		c.Power()
		for k := range 10 {
			if e := c.Program(k, "\x00"); e != api.OK || !c.On() {
				t.Errorf("a fuse of %d, operation %d: %v", fuse, k, e)
			}
		}
	}
	c := off(t)
	c.Fuse(0, "\x01")
	if c.On() || c.Erase(1) != api.ErrPower || c.Ops() != 1 {
		t.Error("a fuse switched the power on")
	}
	c.Power()
	if !c.On() || c.Bytes() != bytesOf(api.FlashSize) || c.Ops() != 1 {
		t.Error("Power changed something else")
	}
	if c.Erase(0) != api.OK || c.Program(0, "a") != api.OK || c.Ops() != 3 {
		t.Error("a fuse from the time without power remained")
	}
}

func TestNo3TheLastFuseHolds(t *testing.T) {
	for _, none := range []int{-1, -2, math.MinInt} {
		c := New()
		c.Fuse(0, "\x01")
		c.Fuse(none, "\x01")
		for sector := range 48 {
			if e := c.Erase(sector); e != api.OK || !c.On() {
				t.Errorf("Fuse(%d): sector %d: %v", none, sector, e)
			}
		}
	}
	c := New()
	c.Fuse(0, "\x00")
	c.Fuse(1, "\xf0")
	if c.Program(0, "\x00") != api.OK || c.Program(1, "\x00") != api.ErrPower || c.Bytes()[:3] != "\x00\xf0\xff" {
		t.Errorf("%x", c.Bytes()[:3])
	}
	c = New()
	c.Fuse(api.MaxInt, "\x01")
	if c.Write(0, zeros(24576)) != api.OK || !c.On() || c.Bytes() != zeros(24576) {
		t.Error("a long fuse is not a long one")
	}
}

func TestNo3TornErase(t *testing.T) {
	all := bytesOf(api.FlashSize)
	for _, torn := range []string{"", "\x00", "\x01", "\x02\x03", "\xfe\xff", "\x00\x01\x01", "\x80\x40\x7f\x81\x05", bytesOf(511), bytesOf(512), bytesOf(513), bytesOf(2000)} {
		for _, sector := range []int{0, 1, 46, 47} {
			c := full()
			c.Fuse(0, torn)
			part := []byte(all[sector*512 : sector*512+512])
			for i := range part {
				if torn != "" && torn[i%len(torn)]&1 == 1 {
					part[i] = 0xff
				}
			}
			if e := c.Erase(sector); e != api.ErrPower || c.On() || c.Ops() != 1 || c.Bytes() != with(all, sector*512, string(part)) {
				t.Errorf("of sector %d, by %d bytes: %v, %v", sector, len(torn), e, c.On())
			}
		}
	}
}

// By bits: one that is 1 becomes 0 exactly if neither s nor torn has it, and one that is 0 stays.
func TestNo3TornProgramBitByBit(t *testing.T) {
	for k, x := range []struct{ old, s, torn, want byte }{
		{0xff, 0x00, 0x00, 0x00}, {0xff, 0x00, 0xff, 0xff}, {0xff, 0xff, 0x00, 0xff}, {0x00, 0xff, 0xff, 0x00},
		{0xf0, 0xcc, 0xaa, 0xe0}, {0xff, 0xcc, 0xaa, 0xee}, {0x0f, 0xcc, 0xaa, 0x0e}, {0xf0, 0x00, 0x30, 0x30}, {0xf0, 0x00, 0x01, 0x00},
	} {
		c := Load(string([]byte{x.old}))
		c.Fuse(0, string([]byte{x.torn}))
		if e := c.Program(0, string([]byte{x.s})); e != api.ErrPower || c.Bytes()[0] != x.want {
			t.Errorf("case %d: %v, %x, not %x", k, e, c.Bytes()[0], x.want)
		}
	}
}

func TestNo3TornProgram(t *testing.T) {
	all := bytesOf(api.FlashSize)
	s := bytesOf(50)[18:]
	for _, torn := range []string{"", "\x00", "\xff", "\x30\x01", "\x00\x0f\xf0", bytesOf(31), bytesOf(32), bytesOf(33), bytesOf(1000)} {
		for _, at := range []int{0, 5, 31, 32, 40, 512, 24544, 24575} {
			n := 32 - at%32
			part := []byte(all[at : at+n])
			for i := range part {
				for bit := range 8 {
					has := func(b byte) bool { return b>>bit&1 == 1 }
					if torn != "" && !has(s[i]) && !has(torn[i%len(torn)]) {
						part[i] &^= 1 << bit
					}
				}
			}
			c := full()
			c.Fuse(0, torn)
			if e := c.Program(at, s[:n]); e != api.ErrPower || c.On() || c.Ops() != 1 || c.Bytes() != with(all, at, string(part)) {
				t.Errorf("%d bytes from %d on, by %d bytes: %v, %v", n, at, len(torn), e, c.On())
			}
		}
	}
}

// The i-th byte of torn belongs to the i-th byte of the part that was being programmed, not to that of the whole.
func TestNo3TornWrite(t *testing.T) {
	c := New()
	c.Fuse(1, "\x01\x02\x03")
	want := zeros(2) + ones(30) // the second part begins with torn's first byte
	want = with(want, 2, "\x01\x02\x03\x01")
	if e := c.Write(30, zeros(6)); e != api.ErrPower || c.Bytes()[30:62] != want || c.Bytes()[:30] != ones(30) || c.Ops() != 2 {
		t.Errorf("%v, %x", e, c.Bytes()[30:40])
	}
}

func TestNo3NilAndZeroChip(t *testing.T) {
	var none *Chip
	var zero Chip
	for k, c := range []*Chip{none, &zero, new(Chip), {}} {
		for range 2 {
			if c.On() || c.Ops() != 0 || c.Bytes() != "" {
				t.Errorf("chip %d: %v, %d, %q", k, c.On(), c.Ops(), c.Bytes())
			}
			for _, n := range numbers() {
				s, e := c.Read(n, 0)
				if s != "" || e != api.ErrPower || c.Erase(n) != api.ErrPower || c.Program(n, "") != api.ErrPower || c.Program(n, "a") != api.ErrPower || c.Write(n, "") != api.ErrPower || c.Write(n, ones(99)) != api.ErrPower {
					t.Errorf("chip %d: something is done at %d", k, n)
				}
				if s, e := c.Read(0, n); s != "" || e != api.ErrPower {
					t.Errorf("chip %d: Read %v", k, e)
				}
			}
			c.Fuse(3, "\x01")
			c.Power()
			c.Fuse(-1, "")
			c.Power()
			c.Fuse(0, "")
		}
	}
}

// slow is a flash as the chapter tells of it, bit by bit: the program is held against it.
type slow struct {
	cells []byte
	on    bool
	ops   int
	fused bool
	left  int
	torn  string
}

// begin tells how the operation that now begins is torn, if it is.
func (m *slow) begin() (torn string, cut bool) {
	m.ops++
	if !m.fused {
		return "", false
	}
	if m.left > 0 {
		m.left--
		return "", false
	}
	m.on, m.fused = false, false
	return m.torn, true
}

func (m *slow) erase(sector int) api.Errno {
	if !m.on {
		return api.ErrPower
	}
	if sector < 0 || sector > 47 {
		return api.ErrRange
	}
	torn, cut := m.begin()
	for i := range 512 {
		if !cut || torn != "" && torn[i%len(torn)]%2 == 1 {
			m.cells[sector*512+i] = 255
		}
	}
	if cut {
		return api.ErrPower
	}
	return api.OK
}

func (m *slow) program(at int, s string) api.Errno {
	switch {
	case !m.on:
		return api.ErrPower
	case s == "" || len(s) > 32:
		return api.ErrArg
	case !isThere(at, len(s)):
		return api.ErrRange
	case at/32 != (at+len(s)-1)/32:
		return api.ErrArg
	}
	torn, cut := m.begin()
	for i := range len(s) {
		for bit := byte(1); bit != 0; bit <<= 1 {
			if s[i]&bit == 0 && (!cut || torn != "" && torn[i%len(torn)]&bit == 0) {
				m.cells[at+i] &^= bit
			}
		}
	}
	if cut {
		return api.ErrPower
	}
	return api.OK
}

func (m *slow) write(at int, s string) api.Errno {
	if !m.on {
		return api.ErrPower
	}
	if !isThere(at, len(s)) {
		return api.ErrRange
	}
	for i := 0; i < len(s); {
		end := i + 1
		for end < len(s) && (at+end)%32 != 0 {
			end++
		}
		if e := m.program(at+i, s[i:end]); e != api.OK {
			return e
		}
		i = end
	}
	return api.OK
}

// dice is a row of numbers that looks like one of chance, but is always the same.
type dice uint32

// below is the next number of the row: from 0 to n-1.
func (d *dice) below(n int) int {
	*d = *d*1664525 + 1013904223
	return int(uint32(*d)>>8) % n
}

// some are up to n bytes.
func (d *dice) some(n int) string {
	b := make([]byte, d.below(n+1))
	for i := range b {
		b[i] = byte(d.below(256))
	}
	return string(b)
}

// at is a position that is mostly in the flash, and often at an edge of it.
func (d *dice) at() int {
	switch d.below(8) {
	case 0:
		return d.below(40) - 20
	case 1:
		return api.FlashSize + d.below(80) - 60
	case 2:
		return d.below(api.FlashSize/api.Page) * api.Page
	}
	return d.below(2048)
}

// step does one thing with both flashes, and tells what it is and what both answer.
func (d *dice) step(c *Chip, m *slow) (kind string, got, want api.Errno) {
	switch d.below(12) {
	case 0, 1, 2:
		sector := d.below(52) - 2
		return "Erase", c.Erase(sector), m.erase(sector)
	case 3, 4, 5, 6:
		at, s := d.at(), d.some(34)
		return "Program", c.Program(at, s), m.program(at, s)
	case 7, 8:
		at, s := d.at(), d.some(200)
		return "Write", c.Write(at, s), m.write(at, s)
	case 9:
		n, torn := d.below(12)-1, d.some(5)
		c.Fuse(n, torn)
		m.fused, m.left, m.torn = n >= 0, n, torn
		return "Fuse", api.OK, api.OK
	}
	c.Power()
	m.on, m.fused = true, false
	return "Power", api.OK, api.OK
}

// keeps reports whether the bytes changed only as an operation of a kind may change them.
func keeps(kind string, before, after string) bool {
	for i := range len(before) {
		old, now := before[i], after[i]
		switch {
		case old == now:
		case kind == "Erase" && now&old == old:
		case kind == "Program" && now&^old == 0:
		case kind == "Write" && now&^old == 0:
		default:
			return false
		}
	}
	return len(before) == len(after)
}

func TestNo4LongRuns(t *testing.T) {
	for seed := range 8 {
		d := dice(seed)
		first := d.some(5000)
		c := Load(first)
		m := &slow{cells: []byte(first + ones(api.FlashSize-len(first))), on: true}
		for k := range 1500 {
			before, wasOn, ops := c.Bytes(), c.On(), c.Ops()
			kind, got, want := d.step(c, m)
			after := c.Bytes()
			if got != want || c.On() != m.on || c.Ops() != m.ops || !bytes.Equal([]byte(after), m.cells) {
				t.Fatalf("run %d, step %d, %s: %v, not %v; %v, not %v; %d, not %d", seed, k, kind, got, want, c.On(), m.on, c.Ops(), m.ops)
			}
			if !keeps(kind, before, after) {
				t.Fatalf("run %d, step %d: %s changed what it may not change", seed, k, kind)
			}
			if !wasOn && (after != before || c.Ops() != ops || c.On() != (kind == "Power")) {
				t.Fatalf("run %d, step %d: %s changed something without power", seed, k, kind)
			}
			at, n := d.at(), d.below(300)-5
			s, e := c.Read(at, n)
			switch {
			case !m.on && (s != "" || e != api.ErrPower), m.on && !isThere(at, n) && (s != "" || e != api.ErrRange), m.on && isThere(at, n) && (s != string(m.cells[at:at+n]) || e != api.OK):
				t.Fatalf("run %d, step %d: Read(%d, %d) is %q, %v", seed, k, at, n, s, e)
			}
		}
	}
}

func TestNo4WithoutPowerNothingChanges(t *testing.T) {
	c := off(t)
	for _, at := range numbers() {
		for _, s := range []string{"", "a", ones(32), zeros(33), zeros(24577)} {
			if c.Program(at, s) != api.ErrPower || c.Write(at, s) != api.ErrPower || c.Erase(at) != api.ErrPower {
				t.Errorf("%d bytes from %d on are not refused", len(s), at)
			}
			c.Fuse(at, s)
		}
	}
	if c.On() || c.Ops() != 1 || c.Bytes() != bytesOf(api.FlashSize) {
		t.Errorf("%v, %d", c.On(), c.Ops())
	}
}

func TestR4ChipsAreApart(t *testing.T) {
	a, b := New(), New()
	kept := *b
	a.Fuse(1, "\x01")
	if a.Program(0, "\x00") != api.OK || a.Erase(9) != api.ErrPower {
		t.Error("the fuse is another one")
	}
	if b.Bytes() != ones(24576) || !b.On() || b.Ops() != 0 || *b != kept {
		t.Error("one flash changed another one")
	}
	d := *b
	if d.Erase(0) != api.OK || d.Program(0, "\x00") != api.OK || *b != kept {
		t.Error("a copy changed the flash that it is a copy of")
	}
	read, _ := b.Read(0, 3)
	all := b.Bytes()
	if b.Write(0, "abc") != api.OK || read != ones(3) || all != ones(24576) {
		t.Error("what was answered changed")
	}
}
