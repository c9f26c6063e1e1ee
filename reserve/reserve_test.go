package reserve

import (
	"math"
	"math/rand/v2"
	"slices"
	"testing"

	"postilion/api"
)

// top is the greatest number of a valid span.
const top = 1<<32 - 1

// spans are those of numbers: where one begins, how many bytes it has, and so on.
func spans(l ...int) []api.Span {
	var made []api.Span
	for k := 0; k < len(l); k += 2 {
		made = append(made, api.Span{At: l[k], N: l[k+1]})
	}
	return made
}

// span is that of n bytes from a position on.
func span(at, n int) api.Span { return api.Span{At: at, N: n} }

// odd are spans that have no byte that counts: they are not valid, or have none.
func odd() []api.Span {
	return spans(0, 0, 4, 0, 5000, 0, top, 0, -1, 0, top+1, 0,
		-1, 1, -1, 10, -100, 200, 0, -1, 5, -1, 10, -5, -3, -4, -5, top,
		top+1, 1, 1<<33, 5, 0, top+1, 5, top+1, 4096, 1<<40,
		math.MinInt, math.MinInt, math.MinInt, 1, math.MinInt, math.MaxInt, 0, math.MinInt,
		math.MaxInt, math.MaxInt, math.MaxInt, 1, 0, math.MaxInt, 1, math.MaxInt, math.MaxInt, math.MinInt)
}

// counts tells whether a span is valid and has a byte, as the chapter says it.
func counts(x api.Span) bool {
	return 0 <= x.At && x.At <= 4294967295 && 1 <= x.N && x.N <= 4294967295
}

// holds tells whether a byte is in a span that counts.
func holds(x api.Span, at int) bool {
	return counts(x) && x.At <= at && at <= x.At+x.N-1
}

// anyHolds tells whether a byte is in one of some.
func anyHolds(l []api.Span, at int) bool {
	for _, x := range l {
		if holds(x, at) {
			return true
		}
	}
	return false
}

// within tells whether a byte is in a span of any size, as Join may answer it.
func within(l []api.Span, at int) bool {
	for _, x := range l {
		if x.At <= at && at-x.At < x.N {
			return true
		}
	}
	return false
}

// edges are the bytes at which spans that count begin and end, those beside them, and those of the memory: between them nothing changes.
func edges(l ...api.Span) []int {
	bytes := []int{math.MinInt, -1, 0, 1, 4095, 4096, 4097, 65535, 65536, 65537, top - 1, top, top + 1, 2 * top, math.MaxInt}
	for _, x := range l {
		if counts(x) {
			end := x.At + x.N
			bytes = append(bytes, x.At-1, x.At, x.At+1, end-2, end-1, end, end+1)
		}
	}
	return bytes
}

// slowMeets is Meets, told by the first byte of each of two spans: if they have one in common, then one of these.
func slowMeets(x api.Span, l ...api.Span) bool {
	for _, other := range l {
		if counts(x) && counts(other) && (holds(x, other.At) || holds(other, x.At)) {
			return true
		}
	}
	return false
}

// slowAdd is Add, told span by span.
func slowAdd(l []api.Span, x api.Span) ([]api.Span, api.Errno) {
	if !counts(x) {
		return nil, api.ErrArg
	}
	if len(l) >= 16 {
		return nil, api.ErrBig
	}
	if slowMeets(x, l...) {
		return nil, api.ErrExist
	}
	var made []api.Span
	there := false
	for _, other := range l {
		if !there && other.At > x.At {
			made = append(made, x)
			there = true
		}
		made = append(made, other)
	}
	if !there {
		made = append(made, x)
	}
	return made, api.OK
}

// apart fails unless spans are in increasing order, each with a byte, and with one between each of them and the next one.
func apart(t *testing.T, what string, l []api.Span) {
	t.Helper()
	for k, x := range l {
		if x.N <= 0 || k > 0 && l[k-1].At+l[k-1].N >= x.At {
			t.Fatalf("%s: span %d of %v", what, k, l)
		}
	}
}

// checkJoin fails unless Join and Free of spans are right at each byte where they could change.
func checkJoin(t *testing.T, l []api.Span) {
	t.Helper()
	before := slices.Clone(l)
	joined, free := Join(l...), Free(l...)
	if !slices.Equal(l, before) {
		t.Fatalf("%v became %v", before, l)
	}
	apart(t, "Join", joined)
	apart(t, "Free", free)
	for _, at := range edges(append(slices.Concat(l, joined, free), span(4096, 61440))...) {
		taken := anyHolds(l, at)
		if within(joined, at) != taken {
			t.Fatalf("Join of %v is %v: byte %d", l, joined, at)
		}
		if within(free, at) != (!taken && at >= 4096 && at < 65536) {
			t.Fatalf("Free of %v is %v: byte %d", l, free, at)
		}
	}
}

// some are random spans: near some bytes, or of any size, or odd.
func some(r *rand.Rand, many int) []api.Span {
	var l []api.Span
	for range many {
		base := []int{0, 4090, 5000, 65530, top - 6, top + 1}[r.IntN(6)]
		switch r.IntN(8) {
		case 0:
			l = append(l, odd()[r.IntN(len(odd()))])
		case 1:
			l = append(l, span(r.IntN(70000), r.IntN(70000)))
		case 2:
			l = append(l, span(r.IntN(top+1), r.IntN(top+1)))
		default:
			l = append(l, span(base+r.IntN(12)-2, r.IntN(6)))
		}
	}
	return l
}

func TestExample(t *testing.T) {
	if got := Join(span(0, 4), span(4, 4)); !slices.Equal(got, spans(0, 8)) {
		t.Errorf("%v", got)
	}
}

func TestRs1Meets(t *testing.T) {
	for k, x := range []struct {
		x    api.Span
		l    []api.Span
		want bool
	}{
		{span(4, 4), nil, false},
		{span(4, 4), spans(0, 4), false},
		{span(4, 4), spans(0, 5), true},
		{span(4, 4), spans(8, 4), false},
		{span(4, 4), spans(7, 4), true},
		{span(4, 4), spans(4, 4), true},
		{span(4, 4), spans(5, 2), true},
		{span(5, 2), spans(4, 4), true},
		{span(4, 4), spans(0, 100), true},
		{span(4, 4), spans(0, 4, 8, 4), false},
		{span(4, 4), spans(0, 4, 8, 4, 7, 1), true},
		{span(4, 4), spans(4, 1, 0, 4, 8, 4), true},
		{span(4, 5), spans(0, 4, 8, 4), true},
		// Spans without a byte are in the midst of others, but overlap none.
		{span(4, 4), spans(5, 0, 4, 0, 8, 0), false},
		{span(5, 0), spans(4, 4), false},
		{span(5, 0), spans(5, 0), false},
		// The greatest numbers that are valid, and those beyond.
		{span(0, top), spans(top-1, 1), true},
		{span(0, top), spans(top, 1), false},
		{span(top, 1), spans(top, top), true},
		{span(top, top), spans(0, top), false},
		{span(1, top), spans(top, 1), true},
		{span(0, top+1), spans(4, 4), false},
		{span(4, 4), spans(0, top+1), false},
		{span(top+1, 1), spans(top, top), false},
		{span(top, top), spans(top+1, 1), false},
		{span(top, top), spans(top+1, 1, top, 1), true},
		{span(-1, 10), spans(4, 4), false},
		{span(4, 4), spans(-1, 10), false},
		{span(4, 4), spans(8, -4), false},
		{span(8, -4), spans(4, 4), false},
		{span(-1, 2), spans(-1, 2), false},
		{span(top+1, 1), spans(top+1, 1), false},
	} {
		if got := Meets(x.x, x.l...); got != x.want {
			t.Errorf("case %d: Meets(%v, %v) is %v", k, x.x, x.l, got)
		}
	}
}

func TestRs1MeetsOfAllSmallSpans(t *testing.T) {
	for _, base := range []int{0, 3, 4095, 65535, top - 3, top} {
		for a := range 8 * 8 {
			x := span(base+a/8-2, a%8-1)
			for b := range 8 * 8 {
				other := span(base+b/8-2, b%8-1)
				want := false
				for at := x.At; at < x.At+x.N; at++ {
					want = want || holds(x, at) && holds(other, at)
				}
				if Meets(x, other) != want || Meets(x, span(base+100, 3), other) != want {
					t.Errorf("Meets(%v, %v) is not %v", x, other, want)
				}
			}
		}
	}
}

func TestRs1OddSpansMeetNone(t *testing.T) {
	all := append(odd(), spans(0, top, top, top, 4096, 61440)...)
	for _, x := range odd() {
		if Meets(x, all...) {
			t.Errorf("%v overlaps one", x)
		}
	}
	if l := odd(); Meets(span(0, top), l...) || Meets(span(top, top), l...) || Meets(span(4, 1), l...) {
		t.Error("one overlaps a span that has no byte that counts")
	}
	if !Meets(span(4, 1), all...) {
		t.Error("spans behind those hide one")
	}
}

func TestRs1Has(t *testing.T) {
	for k, x := range []struct {
		l    []api.Span
		at   int
		want bool
	}{
		{nil, 0, false},
		{spans(0, 1), 0, true},
		{spans(0, 1), 1, false},
		{spans(0, 1), -1, false},
		{spans(4, 4), 3, false},
		{spans(4, 4), 4, true},
		{spans(4, 4), 7, true},
		{spans(4, 4), 8, false},
		{spans(8, 4, 0, 4), 2, true},
		{spans(8, 4, 0, 4), 5, false},
		{spans(0, 10, 5, 0), 5, true},
		{spans(5, 0), 5, false},
		{spans(0, top), top - 1, true},
		{spans(0, top), top, false},
		{spans(top, top), top, true},
		{spans(top, top), 2*top - 1, true},
		{spans(top, top), 2 * top, false},
		{spans(top, 1), top, true},
		{spans(top, 1), math.MaxInt, false},
		{spans(0, top, top, top), math.MinInt, false},
		{spans(0, top+1), 5, false},
		{spans(top+1, 1), top + 1, false},
		{spans(-1, 3), 0, false},
		{spans(-1, 3), -1, false},
		{spans(0, -5), 0, false},
		{spans(5, -5), 3, false},
		{spans(0, -5, 0, 1), 0, true},
		{spans(0, math.MaxInt), 5, false},
		{spans(math.MinInt, math.MaxInt), -5, false},
	} {
		if got := Has(x.l, x.at); got != x.want {
			t.Errorf("case %d: Has(%v, %d) is %v", k, x.l, x.at, got)
		}
	}
	for _, at := range edges(odd()...) {
		if Has(odd(), at) {
			t.Errorf("byte %d", at)
		}
	}
}

func TestRs1Add(t *testing.T) {
	for k, x := range []struct {
		l    []api.Span
		x    api.Span
		want []api.Span
	}{
		{nil, span(5, 1), spans(5, 1)},
		{[]api.Span{}, span(0, top), spans(0, top)},
		{nil, span(top, top), spans(top, top)},
		{spans(0, 4, 8, 4), span(4, 4), spans(0, 4, 4, 4, 8, 4)},
		{spans(4, 4, 8, 4), span(0, 4), spans(0, 4, 4, 4, 8, 4)},
		{spans(0, 4, 4, 4), span(8, 4), spans(0, 4, 4, 4, 8, 4)},
		{spans(0, 4, 100, 4), span(50, 1), spans(0, 4, 50, 1, 100, 4)},
		{spans(0, top), span(top, top), spans(0, top, top, top)},
		{spans(top, top), span(0, top), spans(0, top, top, top)},
		// The first one that begins later, whatever is behind it.
		{spans(100, 4, 0, 4, 200, 4), span(50, 1), spans(50, 1, 100, 4, 0, 4, 200, 4)},
		{spans(30, 4, 20, 4, 10, 4), span(40, 1), spans(30, 4, 20, 4, 10, 4, 40, 1)},
		{spans(30, 4, 20, 4, 10, 4), span(25, 1), spans(25, 1, 30, 4, 20, 4, 10, 4)},
		{spans(10, 4, 30, 4, 20, 4), span(25, 1), spans(10, 4, 25, 1, 30, 4, 20, 4)},
		// Spans that are in the list as they are: one that begins at the same byte is not later, and one that is not valid may be.
		{spans(5, 0), span(5, 1), spans(5, 0, 5, 1)},
		{spans(5, 0, 6, 0, 7, 1), span(5, 2), spans(5, 0, 5, 2, 6, 0, 7, 1)},
		{spans(6, 0), span(5, 3), spans(5, 3, 6, 0)},
		{spans(-1, 10, 6, -1, top+1, 1), span(5, 3), spans(-1, 10, 5, 3, 6, -1, top+1, 1)},
		{spans(0, top+1, 9, math.MaxInt), span(5, 3), spans(0, top+1, 5, 3, 9, math.MaxInt)},
		{spans(3, 2, 3, 2), span(1, 2), spans(1, 2, 3, 2, 3, 2)},
	} {
		got, e := Add(x.l, x.x)
		if e != api.OK || !slices.Equal(got, x.want) {
			t.Errorf("case %d: %v, %d, not %v", k, got, e, x.want)
		}
	}
}

func TestRs1AddRefuses(t *testing.T) {
	full := make([]api.Span, 16)
	for k := range full {
		full[k] = span(10*k, 5)
	}
	refused := func(l []api.Span, x api.Span, want api.Errno) {
		t.Helper()
		got, e := Add(l, x)
		if e != want || len(got) != 0 {
			t.Errorf("Add(%v, %v) is %v, %d, not %d", l, x, got, e, want)
		}
	}
	for _, x := range odd() {
		refused(nil, x, api.ErrArg)
		refused(full[:1], x, api.ErrArg)
		refused(full, x, api.ErrArg)          // ahead of ErrBig
		refused([]api.Span{x}, x, api.ErrArg) // it overlaps nothing, but is refused
		refused(spans(0, top), x, api.ErrArg) // ahead of ErrExist
		refused(make([]api.Span, 100), x, api.ErrArg)
	}
	refused(full, span(1000, 1), api.ErrBig)
	refused(full, span(3, 1), api.ErrBig) // ahead of ErrExist
	refused(append(full, span(500, 5)), span(1000, 1), api.ErrBig)
	refused(make([]api.Span, 16), span(0, 1), api.ErrBig) // those without a byte are counted, too
	refused(make([]api.Span, 100000), span(0, 1), api.ErrBig)
	refused(full[:15], span(140, 1), api.ErrExist)
	refused(full[:15], span(3, 8), api.ErrExist)
	refused(full[:15], span(0, top), api.ErrExist)
	refused(full[:1], span(4, 1), api.ErrExist)
	refused(spans(0, top), span(top-1, 2), api.ErrExist)
	refused(spans(top, top), span(1, top), api.ErrExist)
	refused(spans(-1, 10, 5, 0, 7, 2), span(8, 1), api.ErrExist)
	got, e := Add(full[:15], span(145, 5))
	if e != api.OK || !slices.Equal(got, append(slices.Clone(full[:15]), span(145, 5))) {
		t.Errorf("the sixteenth: %v, %d", got, e)
	}
	refused(got, span(1000, 1), api.ErrBig)
	if got, e = Add(make([]api.Span, 15), span(0, 1)); e != api.OK || len(got) != 16 || got[15] != span(0, 1) {
		t.Errorf("the sixteenth: %v, %d", got, e)
	}
}

func TestRs1ListsAreNew(t *testing.T) {
	room := spans(10, 1, 20, 1, 30, 1, 70, 7, 80, 8, 90, 9)
	before := slices.Clone(room)
	l := room[:3]
	for _, x := range spans(5, 1, 15, 1, 25, 1, 35, 1) {
		got, e := Add(l, x)
		if e != api.OK || len(got) != 4 || !slices.Equal(room, before) {
			t.Fatalf("%v, %d; the list and what is behind it became %v", got, e, room)
		}
		again, _ := Add(l, x)
		for k := range got {
			got[k] = span(-7, -7)
		}
		_ = append(got, span(-8, -8))
		if !slices.Equal(room, before) || Has(again, -7) || slices.Contains(again, span(-7, -7)) {
			t.Fatalf("the result shares memory with %v or %v", room, again)
		}
	}
	// Two lists that grow out of one go their own ways.
	grown, _ := Add(l, span(40, 1))
	a, _ := Add(grown, span(50, 1))
	b, _ := Add(grown, span(60, 1))
	if !slices.Equal(a, spans(10, 1, 20, 1, 30, 1, 40, 1, 50, 1)) || !slices.Equal(b, spans(10, 1, 20, 1, 30, 1, 40, 1, 60, 1)) {
		t.Errorf("%v and %v", a, b)
	}
	if _, e := Add(l, span(20, 1)); e != api.ErrExist || !slices.Equal(room, before) {
		t.Errorf("%d; the list became %v", e, room)
	}
}

func TestRs1ArgumentsAreUnchanged(t *testing.T) {
	room := spans(30, 4, 20, 4, 5, 0, 22, 9, -1, 5, 10, 1, 70, 7, 80, 8)
	before := slices.Clone(room)
	l := room[:6]
	Meets(span(22, 1), l...)
	Has(l, 22)
	joined, free := Join(l...), Free(l...)
	if !slices.Equal(room, before) {
		t.Fatalf("the list became %v", room)
	}
	for k := range joined {
		joined[k] = span(-7, -7)
	}
	for k := range free {
		free[k] = span(-7, -7)
	}
	_, _ = append(joined, span(-8, -8)), append(free, span(-8, -8))
	if !slices.Equal(room, before) {
		t.Fatalf("the list became %v", room)
	}
	// Even of what needs no joining the result is another list.
	plain := spans(0, 1, 5, 1)
	Join(plain...)[0] = span(7, 7)
	if plain[0] != span(0, 1) {
		t.Error("the result is the argument")
	}
}

func TestRs1BesideAPlainTelling(t *testing.T) {
	r := rand.New(rand.NewPCG(18, 1))
	seen := map[api.Errno]int{}
	for range 60000 {
		l := some(r, r.IntN(18))
		x := some(r, 1)[0]
		before := slices.Clone(l)
		if got, want := Meets(x, l...), slowMeets(x, l...); got != want {
			t.Fatalf("Meets(%v, %v) is %v", x, l, got)
		}
		for _, at := range edges(l...) {
			if got, want := Has(l, at), anyHolds(l, at); got != want {
				t.Fatalf("Has(%v, %d) is %v", l, at, got)
			}
		}
		got, e := Add(l, x)
		want, wantErr := slowAdd(l, x)
		if e != wantErr || !slices.Equal(got, want) {
			t.Fatalf("Add(%v, %v) is %v, %d, not %v, %d", l, x, got, e, want, wantErr)
		}
		if !slices.Equal(l, before) {
			t.Fatalf("%v became %v", before, l)
		}
		seen[e]++
	}
	for _, e := range []api.Errno{api.OK, api.ErrArg, api.ErrBig, api.ErrExist} {
		if seen[e] < 100 {
			t.Errorf("error %d was returned %d times", e, seen[e])
		}
	}
}

func TestRs1AddOneByOne(t *testing.T) {
	r := rand.New(rand.NewPCG(18, 2))
	for range 3000 {
		var l []api.Span
		for range 40 {
			if got, e := Add(l, span(r.IntN(60), 1+r.IntN(4))); e == api.OK {
				l = got
			}
		}
		// What is added to an ordered list without overlaps is one again.
		for k := 1; k < len(l); k++ {
			if l[k-1].At+l[k-1].N > l[k].At {
				t.Fatalf("%v", l)
			}
		}
	}
}

func TestRs2Join(t *testing.T) {
	for k, x := range []struct{ l, want []api.Span }{
		{nil, nil},
		{odd(), nil},
		{spans(5, 1), spans(5, 1)},
		{spans(0, 4, 4, 4), spans(0, 8)},
		{spans(4, 4, 0, 4), spans(0, 8)},
		{spans(0, 4, 5, 4), spans(0, 4, 5, 4)},
		{spans(5, 4, 0, 4), spans(0, 4, 5, 4)},
		{spans(0, 4, 3, 4), spans(0, 7)},
		{spans(0, 9, 3, 4), spans(0, 9)},
		{spans(0, 9, 3, 4, 9, 1), spans(0, 10)},
		{spans(0, 9, 3, 4, 8, 1, 10, 1), spans(0, 9, 10, 1)},
		{spans(3, 4, 3, 4, 3, 4), spans(3, 4)},
		{spans(3, 4, 3, 2, 3, 6), spans(3, 6)},
		{spans(0, 1, 2, 1, 4, 1, 1, 1, 3, 1), spans(0, 5)},
		{spans(20, 1, 10, 1, 0, 1), spans(0, 1, 10, 1, 20, 1)},
		{spans(0, 4, 4, 0, 5, 4), spans(0, 4, 5, 4)},
		{spans(0, 4, 4, -1, 3, top+1, 5, 4), spans(0, 4, 5, 4)},
		{spans(-1, 10, 5, 1), spans(5, 1)},
		{spans(0, top), spans(0, top)},
		{spans(top, top), spans(top, top)},
		{spans(0, top, 5000, 1), spans(0, top)},
		{spans(top-1, 1, top, 1), spans(top-1, 2)},
		{spans(top, 1, top, top, 0, 1), spans(0, 1, top, top)},
		// All bytes that valid spans may have are one span, even if it is no valid one.
		{spans(0, top, top, top), spans(0, 2*top)},
		{spans(top, 5, 1, top), spans(1, top+4)},
		{spans(1, top, 0, 1), spans(0, top+1)},
	} {
		if got := Join(x.l...); !slices.Equal(got, x.want) {
			t.Errorf("case %d: Join of %v is %v, not %v", k, x.l, got, x.want)
		}
		if got := Join(append(odd(), x.l...)...); !slices.Equal(got, x.want) {
			t.Errorf("case %d: with odd spans it is %v", k, got)
		}
		if slices.ContainsFunc(x.want, func(s api.Span) bool { return !counts(s) }) {
			continue
		}
		if got := Join(x.want...); !slices.Equal(got, x.want) {
			t.Errorf("case %d: joined again it is %v", k, got)
		}
	}
}

func TestRs2Free(t *testing.T) {
	for k, x := range []struct{ l, want []api.Span }{
		{nil, spans(4096, 61440)},
		{odd(), spans(4096, 61440)},
		{spans(0, 4096), spans(4096, 61440)},
		{spans(0, 4097), spans(4097, 61439)},
		{spans(4096, 1), spans(4097, 61439)},
		{spans(4095, 1), spans(4096, 61440)},
		{spans(4097, 1), spans(4096, 1, 4098, 61438)},
		{spans(4096, 61440), nil},
		{spans(0, 65536), nil},
		{spans(0, top), nil},
		{spans(4096, top), nil},
		{spans(4097, top), spans(4096, 1)},
		{spans(4096, 61439), spans(65535, 1)},
		{spans(65535, 1), spans(4096, 61439)},
		{spans(65535, 100), spans(4096, 61439)},
		{spans(65536, 1), spans(4096, 61440)},
		{spans(65536, top), spans(4096, 61440)},
		{spans(top, top), spans(4096, 61440)},
		{spans(4096, 30000, 34096, 31440), nil},
		{spans(34096, 31440, 4096, 30000), nil},
		{spans(5000, 10, 5010, 10), spans(4096, 904, 5020, 60516)},
		{spans(5000, 10, 5011, 10), spans(4096, 904, 5010, 1, 5021, 60515)},
		{spans(6000, 10, 5000, 2000), spans(4096, 904, 7000, 58536)},
		{spans(60000, 10, 0, 10, 50000, 10, 70000, 10), spans(4096, 45904, 50010, 9990, 60010, 5526)},
		{spans(70000, 10, 5000, 1, 80000, 10), spans(4096, 904, 5001, 60535)},
		{spans(5000, -10, 5000, 0, -1, 70000, 0, 1<<32), spans(4096, 61440)},
		{spans(0, top, top, top), nil},
	} {
		if got := Free(x.l...); !slices.Equal(got, x.want) {
			t.Errorf("case %d: Free of %v is %v, not %v", k, x.l, got, x.want)
		}
		if got := Free(append(odd(), x.l...)...); !slices.Equal(got, x.want) {
			t.Errorf("case %d: with odd spans it is %v", k, got)
		}
	}
}

func TestRs2OfAllSmallSpans(t *testing.T) {
	// At each of these bytes something ends: the numbers, the loader, the memory, the valid numbers.
	for _, base := range []int{0, 4096, 5000, 65536, top} {
		for a := range 1 << 15 {
			x := span(base+a%8-4, a>>3%4)
			y := span(base+a>>5%8-4, a>>8%4)
			z := span(base+a>>10%8-4, a>>13%4)
			checkJoin(t, []api.Span{x, y, z})
		}
	}
}

func TestRs2OfManySpans(t *testing.T) {
	r := rand.New(rand.NewPCG(18, 3))
	for k := range 3000 {
		l := some(r, r.IntN(3+k/100))
		checkJoin(t, l)
		joined, free := Join(l...), Free(l...)
		r.Shuffle(len(l), func(a, b int) { l[a], l[b] = l[b], l[a] })
		if !slices.Equal(Join(l...), joined) || !slices.Equal(Free(l...), free) {
			t.Fatalf("in the order %v the result is another one", l)
		}
	}
}

func TestRs2OfVeryManySpans(t *testing.T) {
	const many = 200000
	var l []api.Span
	for k := range many {
		l = append(l, span((many-1-k)*3, 2))
	}
	joined := Join(l...)
	if len(joined) != many || joined[0] != span(0, 2) || joined[many-1] != span(3*many-3, 2) {
		t.Errorf("%d spans", len(joined))
	}
	for k := range l {
		l[k].N = 3
	}
	if got := Join(l...); !slices.Equal(got, spans(0, 3*many)) {
		t.Errorf("%d spans", len(got))
	}
}

// Each byte of the memory and around it is counted: joined, free, or the rest, which is the loader's and what is not in the memory.
func TestRs3EachByteOnce(t *testing.T) {
	r := rand.New(rand.NewPCG(18, 4))
	for range 150 {
		l := append(some(r, r.IntN(12)), span(r.IntN(66000), r.IntN(9000)))
		var owners [66000]int
		for _, x := range append(Join(l...), Free(l...)...) {
			for at := x.At; at < min(x.At+x.N, len(owners)); at++ {
				owners[at]++
			}
		}
		joined, free := Join(l...), Free(l...)
		for at, many := range owners {
			rest := !Has(l, at) && (at < 4096 || at >= 65536)
			if many > 1 || rest != (many == 0) {
				t.Fatalf("%v: byte %d is in %d spans", l, at, many)
			}
		}
		for _, at := range edges(l...) {
			if within(joined, at) && within(free, at) || within(joined, at) != Has(l, at) {
				t.Fatalf("%v: byte %d", l, at)
			}
		}
		if Meets(span(0, 4096), free...) || Meets(span(65536, top), free...) {
			t.Fatalf("%v: free are %v", l, free)
		}
	}
}

// What is free and what is joined is all there is behind the loader, and nothing of it is free twice.
func TestRs3FreeOfFree(t *testing.T) {
	r := rand.New(rand.NewPCG(18, 5))
	for range 3000 {
		l := some(r, r.IntN(20))
		free := Free(l...)
		if Meets(span(4096, 61440), Free(append(l, free...)...)...) {
			t.Fatalf("%v: something is left", l)
		}
		for _, x := range free {
			if Meets(x, l...) {
				t.Fatalf("%v: %v is free", l, x)
			}
		}
		// The other way round: what the free ones leave is what was taken, and the loader.
		if got := Free(append(Free(free...), free...)...); len(got) != 0 {
			t.Fatalf("%v: %v is in neither", l, got)
		}
		for _, x := range Free(free...) {
			if !slices.Equal(Join(append(l, x)...), Join(l...)) {
				t.Fatalf("%v: %v was not taken", l, x)
			}
		}
	}
}
