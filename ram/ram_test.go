package ram

import (
	"math"
	"slices"
	"strings"
	"testing"

	"postilion/api"
)

// bytesOf are so many bytes of all values, in an order that does not repeat soon.
func bytesOf(n int) string {
	b := make([]byte, n)
	for i := range b {
		b[i] = byte(i*37 + i/256*11 + i/7)
	}
	return string(b)
}

// zeros are so many bytes without a bit.
func zeros(n int) string { return strings.Repeat("\x00", n) }

// span is that of n bytes from a position on.
func span(at, n int) api.Span { return api.Span{At: at, N: n} }

// all are all bytes of a memory.
func all(t *testing.T, r *Ram) string {
	t.Helper()
	s, e := r.Read(0, api.RamSize)
	if e != api.OK || len(s) != 65536 {
		t.Fatalf("the whole memory is read as %d bytes, %v", len(s), e)
	}
	return s
}

// loaded is a memory in which bytes were laid.
func loaded(t *testing.T, l ...api.Span) *Ram {
	t.Helper()
	r := New()
	for _, x := range l {
		if e := r.Load(x.At, bytesOf(x.N)); e != api.OK {
			t.Fatalf("Load of %v: %v", x, e)
		}
	}
	return r
}

// numbers are positions and lengths: ordinary ones, edges, and wrong ones.
func numbers() []int {
	l := []int{math.MinInt, math.MinInt + 1, -1 << 32, -65536, -4096, -2, -1, 1 << 31, 1 << 32, 1<<32 + 1, 1<<32 + 5000, 1 << 62, api.MaxInt - 65536, api.MaxInt - 1, api.MaxInt}
	for _, n := range []int{0, 4096, 5000, 5010, 20000, 61440, 65536} {
		l = append(l, n, n+1)
		if n > 0 {
			l = append(l, n-1)
		}
	}
	return l
}

// model is a memory that knows of each byte whether it is the loader's, or laid there.
type model struct {
	used  [api.RamSize]bool
	cells [api.RamSize]byte
	spans []api.Span
}

// plain is a model of a memory that is new.
func plain() *model { return &model{} }

// check is what Check has to answer, told byte by byte; what it loads in a copy is gone with it.
func (m model) check(l ...api.Span) api.Errno {
	for _, x := range l {
		if x.At < 0 || x.N < 0 || x.At > 65536 || x.N > 65536 || x.At+x.N > 65536 {
			return api.ErrRange
		}
		for i := x.At; i < x.At+x.N; i++ {
			if i < 4096 {
				return api.ErrProt
			}
		}
		for i := x.At; i < x.At+x.N; i++ {
			if m.used[i] {
				return api.ErrExist
			}
		}
		for i := x.At; i < x.At+x.N; i++ {
			m.used[i] = true
		}
	}
	return api.OK
}

// load is what Load has to do and answer.
func (m *model) load(at int, s string) api.Errno {
	if e := m.check(span(at, len(s))); e != api.OK {
		return e
	}
	for i := range len(s) {
		m.used[at+i], m.cells[at+i] = true, s[i]
	}
	m.spans = append(m.spans, span(at, len(s)))
	return api.OK
}

// same tells whether a memory has the bytes and the spans of a model.
func (m *model) same(t *testing.T, r *Ram) bool {
	t.Helper()
	return all(t, r) == string(m.cells[:]) && slices.Equal(r.Spans(), m.spans)
}

func TestExample(t *testing.T) {
	r := New()
	if e := r.Load(4096, "a"); e != api.OK {
		t.Errorf("at 4096: %v", e)
	}
	if e := r.Load(4095, "a"); e != api.ErrProt {
		t.Errorf("at 4095: %v", e)
	}
}

func TestRa1New(t *testing.T) {
	r := New()
	if r == nil || all(t, r) != zeros(65536) || len(r.Spans()) != 0 || r.Check() != api.OK {
		t.Error("it is not empty")
	}
	if e := r.Check(span(4096, 61440)); e != api.OK {
		t.Errorf("all behind the loader: %v", e)
	}
	other := New()
	if e := r.Load(5000, "abc"); e != api.OK {
		t.Error(e)
	}
	if all(t, other) != zeros(65536) || len(other.Spans()) != 0 {
		t.Error("another one has what was loaded")
	}
}

func TestRa1CheckOfOneSpan(t *testing.T) {
	before := []api.Span{span(5000, 10), span(20000, 1), span(65535, 1), span(5005, 0), span(0, 0)}
	r, m := loaded(t, before...), plain()
	for _, x := range before {
		m.load(x.At, bytesOf(x.N))
	}
	for _, at := range numbers() {
		for _, n := range numbers() {
			want := m.check(span(at, n))
			if e := r.Check(span(at, n)); e != want {
				t.Errorf("%d bytes at %d: %v, not %v", n, at, e, want)
			}
		}
	}
	if !m.same(t, r) {
		t.Error("Check changed the memory")
	}
}

func TestRa1CheckEdges(t *testing.T) {
	r := loaded(t, span(5000, 10), span(6000, 0))
	for k, x := range []struct {
		span api.Span
		want api.Errno
	}{
		{span(4096, 1), api.OK},
		{span(4095, 1), api.ErrProt},
		{span(4095, 0), api.OK}, // no byte of the loader
		{span(0, 0), api.OK},
		{span(0, 1), api.ErrProt},
		{span(0, 4096), api.ErrProt},
		{span(0, 65536), api.ErrProt}, // ahead of ErrExist
		{span(0, 65537), api.ErrRange},
		{span(4095, 2), api.ErrProt},
		{span(4096, 904), api.OK},
		{span(4096, 905), api.ErrExist},
		{span(4096, 61440), api.ErrExist},
		{span(4096, 61441), api.ErrRange}, // ahead of ErrExist
		{span(4990, 10), api.OK},
		{span(4990, 11), api.ErrExist},
		{span(4990, 30), api.ErrExist},
		{span(5000, 10), api.ErrExist},
		{span(5000, 0), api.OK},
		{span(5004, 0), api.OK}, // inside of the other one, but without a byte
		{span(5004, 1), api.ErrExist},
		{span(5009, 1), api.ErrExist},
		{span(5010, 0), api.OK},
		{span(5010, 1), api.OK},
		{span(5990, 20), api.OK}, // the one inside has no byte
		{span(65536, 0), api.OK},
		{span(65537, 0), api.ErrRange},
		{span(65535, 1), api.OK},
		{span(65535, 2), api.ErrRange},
		{span(65536, 1), api.ErrRange},
		{span(-1, 0), api.ErrRange},
		{span(-1, 1), api.ErrRange},
		{span(-1, 2), api.ErrRange}, // ahead of ErrProt
		{span(5000, -1), api.ErrRange},
		{span(0, -1), api.ErrRange},
		{span(65537, -1), api.ErrRange},
		{span(1<<62, 1<<62), api.ErrRange},
		{span(api.MaxInt, 1), api.ErrRange},
		{span(1, api.MaxInt), api.ErrRange},
		{span(math.MinInt, math.MinInt), api.ErrRange},
		{span(math.MinInt, api.MaxInt), api.ErrRange},
		{span(5000, math.MinInt), api.ErrRange},
	} {
		if e := r.Check(x.span); e != x.want {
			t.Errorf("case %d, %v: %v, not %v", k, x.span, e, x.want)
		}
	}
}

// The first span that has an error says which: a later one has no say, even with an error that is named ahead of it.
func TestRa1CheckSpanBySpan(t *testing.T) {
	r := loaded(t, span(5000, 10))
	far, own, taken, right := span(65536, 1), span(4095, 1), span(5009, 2), span(7000, 10)
	for k, x := range []struct {
		l    []api.Span
		want api.Errno
	}{
		{nil, api.OK},
		{[]api.Span{}, api.OK},
		{[]api.Span{right}, api.OK},
		{[]api.Span{right, right}, api.ErrExist},
		{[]api.Span{right, far, own}, api.ErrRange},
		{[]api.Span{own, far}, api.ErrProt},
		{[]api.Span{taken, own, far}, api.ErrExist},
		{[]api.Span{taken, far}, api.ErrExist},
		{[]api.Span{right, taken}, api.ErrExist},
		{[]api.Span{right, right, far}, api.ErrExist},
		{[]api.Span{right, far, right}, api.ErrRange},
		{[]api.Span{right, own, right}, api.ErrProt},
		{[]api.Span{right, span(7010, 1), span(6999, 1)}, api.OK},
		{[]api.Span{right, span(6999, 2)}, api.ErrExist},
		{[]api.Span{right, span(7009, 1)}, api.ErrExist},
		{[]api.Span{right, span(6990, 100)}, api.ErrExist},
		{[]api.Span{right, span(7004, 2)}, api.ErrExist},
		{[]api.Span{right, span(8000, 1), span(7009, 5)}, api.ErrExist},
		{[]api.Span{right, span(8000, 1), span(8000, 1)}, api.ErrExist},
		{[]api.Span{right, span(7005, 0), span(7005, 0)}, api.OK},
		{[]api.Span{span(7005, 0), right}, api.OK},
		{[]api.Span{span(4096, 904), span(5010, 60526)}, api.OK},
		{[]api.Span{span(5010, 60526), span(4096, 904), span(65536, 0)}, api.OK},
		{[]api.Span{span(4096, 904), span(5010, 60526), span(10000, 1)}, api.ErrExist},
		{[]api.Span{span(0, 0), span(65536, 0), span(-1, 0)}, api.ErrRange},
	} {
		if e := r.Check(x.l...); e != x.want {
			t.Errorf("case %d: %v, not %v", k, e, x.want)
		}
	}
	if !slices.Equal(r.Spans(), []api.Span{span(5000, 10)}) || r.Check(right) != api.OK {
		t.Error("Check loaded something")
	}
}

// All spans within some bytes, in pairs: whether they have one in common, told byte by byte.
func TestRa1Overlaps(t *testing.T) {
	var l []api.Span
	for at := 4096; at < 4103; at++ {
		for n := range 5 {
			l = append(l, span(at, n))
		}
	}
	for _, a := range l {
		for _, b := range l {
			want := api.OK
			for i := a.At; i < a.At+a.N; i++ {
				if i >= b.At && i < b.At+b.N {
					want = api.ErrExist
				}
			}
			if e := New().Check(a, b); e != want {
				t.Errorf("%v, then %v: %v, not %v", a, b, e, want)
			}
			if e := loaded(t, a).Load(b.At, bytesOf(b.N)); e != want {
				t.Errorf("%v is loaded, then %v: %v, not %v", a, b, e, want)
			}
		}
	}
}

func TestRa1Load(t *testing.T) {
	r, m := New(), plain()
	for k, x := range []struct {
		at   int
		s    string
		want api.Errno
	}{
		{6000, "middle", api.OK},
		{4096, "first", api.OK},
		{65536 - 4, "last", api.OK},
		{65536, "", api.OK},
		{0, "", api.OK},
		{4095, "", api.OK},
		{6002, "", api.OK},
		{6002, "", api.OK}, // a second one there is another span
		{6006, "\x00\xff\x80\n", api.OK},
		{5999, "x", api.OK},
		{6005, "x", api.ErrExist},
		{5990, strings.Repeat("x", 10), api.ErrExist},
		{5989, strings.Repeat("x", 10), api.OK},
		{4095, "x", api.ErrProt},
		{0, strings.Repeat("x", 65536), api.ErrProt},
		{0, strings.Repeat("x", 65537), api.ErrRange},
		{4096, strings.Repeat("x", 61440), api.ErrExist},
		{4096, strings.Repeat("x", 61441), api.ErrRange},
		{65533, "long", api.ErrRange},
		{65537, "", api.ErrRange},
		{-1, "", api.ErrRange},
		{-1, "xy", api.ErrRange},
		{math.MinInt, "x", api.ErrRange},
		{api.MaxInt, "x", api.ErrRange},
		{7000, bytesOf(10000), api.OK},
	} {
		want := m.load(x.at, x.s)
		if e := r.Load(x.at, x.s); e != want || e != x.want {
			t.Errorf("case %d: %v, not %v and %v", k, e, want, x.want)
		}
		if !m.same(t, r) {
			t.Errorf("case %d: the memory is another one", k)
		}
	}
}

func TestRa1LoadOfAll(t *testing.T) {
	r := New()
	s := bytesOf(61440)
	if e := r.Load(4096, s); e != api.OK || all(t, r) != zeros(4096)+s {
		t.Error(e)
	}
	for at := range 65536 {
		want := api.ErrExist
		if at < 4096 {
			want = api.ErrProt
		}
		if e := r.Load(at, "x"); e != want {
			t.Fatalf("at %d: %v, not %v", at, e, want)
		}
	}
	if e := r.Load(4096, ""); e != api.OK || all(t, r) != zeros(4096)+s {
		t.Errorf("no byte: %v", e)
	}
}

func TestRa1Read(t *testing.T) {
	r := loaded(t, span(4096, 100), span(5000, 3000), span(65000, 536))
	bytes := all(t, r)
	for _, at := range numbers() {
		for _, n := range numbers() {
			s, e := r.Read(at, n)
			switch {
			case at < 0 || n < 0 || at > 65536 || n > 65536-at:
				if s != "" || e != api.ErrRange {
					t.Errorf("Read(%d, %d) is %d bytes, %v", at, n, len(s), e)
				}
			case e != api.OK || s != bytes[at:at+n]:
				t.Errorf("Read(%d, %d) is %d bytes, %v", at, n, len(s), e)
			}
		}
	}
	if all(t, r) != bytes || len(r.Spans()) != 3 {
		t.Error("Read changed the memory")
	}
}

func TestRa1Clear(t *testing.T) {
	r := loaded(t, span(4096, 2000), span(65536, 0), span(65000, 536))
	r.Clear()
	if all(t, r) != zeros(65536) || len(r.Spans()) != 0 {
		t.Error("something is left")
	}
	for k, x := range []struct {
		at   int
		s    string
		want api.Errno
	}{{65535, "z", api.OK}, {4095, "x", api.ErrProt}, {4096, "abc", api.OK}, {4098, "x", api.ErrExist}} {
		if e := r.Load(x.at, x.s); e != x.want {
			t.Errorf("case %d: %v", k, e)
		}
	}
	if all(t, r) != zeros(4096)+"abc"+zeros(61436)+"z" || !slices.Equal(r.Spans(), []api.Span{span(65535, 1), span(4096, 3)}) {
		t.Errorf("what is loaded then is %v", r.Spans())
	}
	r.Clear()
	r.Clear()
	if all(t, r) != zeros(65536) || len(r.Spans()) != 0 || r.Check(span(4096, 61440)) != api.OK {
		t.Error("something is left of the second time")
	}
}

// A nil and a zero memory stay so, whatever is done with them.
func TestRa1NilAndZero(t *testing.T) {
	var zero Ram
	for k, r := range []*Ram{nil, &zero, new(Ram)} {
		for range 2 {
			for _, n := range numbers() {
				a, e := r.Read(n, 0)
				b, f := r.Read(0, n)
				if a != "" || b != "" || e != api.ErrRange || f != api.ErrRange {
					t.Errorf("case %d: something is read at %d", k, n)
				}
				if r.Load(n, "") != api.ErrRange || r.Load(n, "abc") != api.ErrRange || r.Check(span(n, 0)) != api.ErrRange || r.Check(span(5000, n)) != api.ErrRange {
					t.Errorf("case %d: something may be loaded at %d", k, n)
				}
			}
			if r.Check() != api.ErrRange || r.Check(span(5000, 1), span(5000, 1)) != api.ErrRange || r.Check(span(0, 1)) != api.ErrRange || len(r.Spans()) != 0 {
				t.Errorf("case %d: it is a memory", k)
			}
			r.Clear()
		}
	}
}

// What is passed is not changed, and what is returned belongs to the caller.
func TestRa1ListsAreNew(t *testing.T) {
	r := loaded(t, span(5000, 10), span(6000, 20), span(7000, 5))
	want := r.Spans()
	got := r.Spans()
	got[0], got[1] = span(1, 2), span(3, 4)
	_ = append(got[:0], span(5, 6))
	if !slices.Equal(r.Spans(), want) || r.Check(span(5000, 1)) != api.ErrExist {
		t.Error("a list that was returned is the memory's own")
	}
	early := r.Spans()
	if e := r.Load(8000, "a"); e != api.OK {
		t.Error(e)
	}
	_ = append(early, span(9000, 9))
	if !slices.Equal(early, want) || !slices.Equal(r.Spans(), append(want, span(8000, 1))) {
		t.Error("a list that was returned grows")
	}
	room := []api.Span{span(10000, 1), span(10001, 1), span(10002, 1), span(10003, 1)}
	l := slices.Clone(room)
	if e := r.Check(l[:2]...); e != api.OK || !slices.Equal(l, room) {
		t.Errorf("a list that was passed changed: %v", e)
	}
	if e := r.Load(10000, "ab"); e != api.OK {
		t.Error(e)
	}
	if e := r.Check(l[2:]...); e != api.OK || !slices.Equal(l, room) {
		t.Errorf("a list that was passed changed: %v", e)
	}
}

// What is refused has no effect that a later call could observe.
func TestRa1RefusedChangesNothing(t *testing.T) {
	r := loaded(t, span(5000, 10), span(65000, 100))
	bytes, spans := all(t, r), r.Spans()
	for _, at := range []int{math.MinInt, -1, 0, 1, 4000, 4095, 4999, 5000, 5009, 64990, 65099, 65535, 65536, 65537, api.MaxInt} {
		for _, n := range []int{2, 20, 1000, 61440, 65536, 70000} {
			if r.Check(span(at, n)) == api.OK {
				continue
			}
			if e := r.Load(at, strings.Repeat("\xff", n)); e == api.OK {
				t.Errorf("%d bytes at %d are loaded", n, at)
			}
		}
	}
	if all(t, r) != bytes || !slices.Equal(r.Spans(), spans) {
		t.Error("the memory changed")
	}
	if e := r.Load(4096, bytesOf(904)); e != api.OK {
		t.Errorf("what is free is taken: %v", e)
	}
}

// dice are numbers that look as if they were thrown, the same ones each time.
type dice uint64

// below is a number from 0 to n - 1.
func (d *dice) below(n int) int {
	*d = *d*6364136223846793005 + 1442695040888963407
	return int(uint64(*d) >> 33 % uint64(n))
}

// span is one of few bytes near others, of none, of many, or one that is wrong.
func (d *dice) span() api.Span {
	switch d.below(8) {
	case 0:
		return span(d.below(65600), 0)
	case 1:
		return span(d.below(70000)-2000, d.below(3000))
	case 2:
		return span(4080+d.below(32), d.below(20))
	case 3:
		return span(65536-d.below(40), d.below(40))
	}
	return span(4096+d.below(2000), d.below(30))
}

func TestRa1LongRuns(t *testing.T) {
	for seed := range 8 {
		d := dice(seed)
		r, m := New(), plain()
		for k := range 600 {
			if d.below(200) == 0 {
				r.Clear()
				m = plain()
			}
			var l []api.Span
			for range d.below(5) {
				l = append(l, d.span())
			}
			if got, want := r.Check(l...), m.check(l...); got != want {
				t.Fatalf("run %d, step %d: Check of %v: %v, not %v", seed, k, l, got, want)
			}
			x := d.span()
			s := bytesOf(x.N + k)[k:]
			if got, want := r.Load(x.At, s), m.load(x.At, s); got != want || !m.same(t, r) {
				t.Fatalf("run %d, step %d: Load of %v: %v, not %v", seed, k, x, got, want)
			}
		}
	}
}

// What Check allows can be loaded, one after the other, and what it refuses cannot.
func TestRa1CheckTellsOfLoad(t *testing.T) {
	for seed := range 2000 {
		d := dice(seed)
		r := loaded(t, span(4100, 5), span(5000, 40))
		var l []api.Span
		for range 1 + d.below(4) {
			l = append(l, d.span())
		}
		want := api.OK
		told := r.Check(l...)
		for _, x := range l {
			if want == api.OK {
				want = r.Load(x.At, bytesOf(x.N))
			}
		}
		if told != want {
			t.Fatalf("%v: Check is %v, but Load %v", l, told, want)
		}
	}
}

// Whatever is tried, what was loaded is still there, apart from all else.
func TestRa2LoadedSpans(t *testing.T) {
	for seed := range 8 {
		d := dice(seed + 100)
		r := New()
		var kept []string
		for k := range 500 {
			x := d.span()
			s := bytesOf(x.N + 3*k)[3*k:]
			if r.Load(x.At, s) == api.OK {
				kept = append(kept, s)
			}
		}
		spans := r.Spans()
		if len(spans) != len(kept) || len(kept) < 50 {
			t.Fatalf("run %d: %d spans of %d", seed, len(spans), len(kept))
		}
		var owner [api.RamSize]int
		for i, x := range spans {
			if s, e := r.Read(x.At, x.N); s != kept[i] || e != api.OK {
				t.Errorf("run %d: %v does not contain what was loaded", seed, x)
			}
			for at := x.At; at < x.At+x.N; at++ {
				if at < 4096 || owner[at] != 0 {
					t.Fatalf("run %d: byte %d of %v has another owner", seed, at, x)
				}
				owner[at] = i + 1
			}
		}
		for at, b := range []byte(all(t, r)) {
			if owner[at] == 0 && b != 0 {
				t.Fatalf("run %d: byte %d is %d, but was not loaded", seed, at, b)
			}
		}
	}
}

// A memory may be filled byte by byte, from its end on, with spans of no byte between them.
func TestRa2FilledByteByByte(t *testing.T) {
	r, s := New(), bytesOf(2048)
	if e := r.Load(6144, bytesOf(59392)); e != api.OK {
		t.Fatal(e)
	}
	for i := len(s) - 1; i >= 0; i-- {
		at := 4096 + i
		if r.Load(at, s[i:i+1]) != api.OK || r.Load(at, "") != api.OK || r.Load(at, "x") != api.ErrExist {
			t.Fatalf("byte %d is not loaded, or twice", at)
		}
	}
	if e := r.Load(4095, "x"); e != api.ErrProt || all(t, r) != zeros(4096)+s+bytesOf(59392) || len(r.Spans()) != 4097 {
		t.Errorf("%v, and %d spans", e, len(r.Spans()))
	}
}
