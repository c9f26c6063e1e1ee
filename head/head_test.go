package head

import (
	"encoding/binary"
	"math"
	"strings"
	"testing"

	"postilion/api"
)

// ordinary is a header of 100 bytes, each part of which ends where the next one begins.
func ordinary() api.Head {
	return api.Head{Total: 100, Struct: 56, Strings: 80, Reserve: 40, Boot: 3, Texts: 20, Size: 24}
}

// numbers are the ten numbers of a header.
func numbers(h api.Head) [10]int {
	return [10]int{0xd00dfeed, h.Total, h.Struct, h.Strings, h.Reserve, 17, 16, h.Boot, h.Texts, h.Size}
}

// written are the bytes of ten numbers, of which only the lowest 32 bits count.
func written(l [10]int) string {
	var b []byte
	for _, n := range l {
		b = binary.BigEndian.AppendUint32(b, uint32(n))
	}
	return string(b)
}

// slowValid tells whether a header is valid, as the chapter says it, number by number. Only numbers of 32 bits are added.
func slowValid(h api.Head) bool {
	for _, n := range numbers(h) {
		if n < 0 || n > 1<<32-1 {
			return false
		}
	}
	if h.Total < 40 || h.Total > 16384 || h.Struct%4 != 0 || h.Reserve%8 != 0 {
		return false
	}
	for _, at := range []int{h.Struct, h.Strings, h.Reserve} {
		if at < 40 || at > h.Total {
			return false
		}
	}
	return h.Struct+h.Size <= h.Total && h.Strings+h.Texts <= h.Total
}

// slowRead reads a header as the chapter says it, error by error.
func slowRead(s string) (api.Head, api.Errno) {
	if len(s) < 40 {
		return api.Head{}, api.ErrShort
	}
	var l [10]int
	for k := range l {
		l[k] = int(binary.BigEndian.Uint32([]byte(s[4*k : 4*k+4])))
	}
	if l[0] != 0xd00dfeed || l[5] < 17 || l[6] > 17 {
		return api.Head{}, api.ErrForm
	}
	if l[1] > 16384 {
		return api.Head{}, api.ErrBig
	}
	h := api.Head{Total: l[1], Struct: l[2], Strings: l[3], Reserve: l[4], Boot: l[7], Texts: l[8], Size: l[9]}
	if !slowValid(h) {
		return api.Head{}, api.ErrForm
	}
	if len(s) < h.Total {
		return api.Head{}, api.ErrShort
	}
	return h, api.OK
}

// reads fails if Read does not answer a header, or an error and nothing else, or if slowRead answers otherwise.
func reads(t *testing.T, s string, want api.Head, wantErr api.Errno) {
	t.Helper()
	if h, e := Read(s); h != want || e != wantErr {
		t.Errorf("Read(%.60q) of %d bytes is %+v, %v, not %+v, %v", s, len(s), h, e, want, wantErr)
	}
	if h, e := slowRead(s); h != want || e != wantErr {
		t.Errorf("the plain reading of %.60q is %+v, %v, not %+v, %v", s, h, e, want, wantErr)
	}
}

// agrees fails if Read does not answer what slowRead does.
func agrees(t *testing.T, s string) api.Errno {
	t.Helper()
	want, wantErr := slowRead(s)
	h, e := Read(s)
	if h != want || e != wantErr {
		t.Fatalf("Read(%.60q) of %d bytes is %+v, %v, not %+v, %v", s, len(s), h, e, want, wantErr)
	}
	return e
}

// puts fails if Put does not answer the bytes of a valid header, and ErrArg for another one.
func puts(t *testing.T, h api.Head) bool {
	t.Helper()
	want, wantErr := "", api.ErrArg
	if slowValid(h) {
		want, wantErr = written(numbers(h)), api.OK
	}
	if s, e := Put(h); s != want || e != wantErr {
		t.Fatalf("Put(%+v) is %q, %v, not %q, %v", h, s, e, want, wantErr)
	}
	return wantErr == api.OK
}

// heads calls a function with all headers that have a number of each of seven lists.
func heads(fields [7][]int, do func(h api.Head)) {
	var chosen [7]int
	var choose func(k int)
	choose = func(k int) {
		if k == len(fields) {
			do(api.Head{Total: chosen[0], Struct: chosen[1], Strings: chosen[2], Reserve: chosen[3], Boot: chosen[4], Texts: chosen[5], Size: chosen[6]})
			return
		}
		for _, n := range fields[k] {
			chosen[k] = n
			choose(k + 1)
		}
	}
	choose(0)
}

// extremes are numbers that are in no header, or only in few.
func extremes() []int {
	return []int{
		math.MinInt, math.MinInt + 40, -1 << 32, -1<<32 + 40, -1 << 31, -40, -8, -4, -1,
		0, 1, 4, 8, 24, 39, 40, 41, 42, 44, 48, 56, 80, 96, 99, 100, 101, 104, 108,
		1<<14 - 1, 1 << 14, 1<<14 + 1, 1 << 16, 1<<31 - 1, 1 << 31, 1<<32 - 8, 1<<32 - 1,
		1 << 32, 1<<32 + 3, 1<<32 + 20, 1<<32 + 24, 1<<32 + 40, 1<<32 + 56, 1<<32 + 80, 1<<32 + 100, 1 << 40, 1 << 62, math.MaxInt - 39, math.MaxInt - 7, math.MaxInt,
	}
}

func TestExample(t *testing.T) {
	for _, s := range []string{strings.Repeat("\x00", 39), strings.Repeat("x", 39), written(numbers(ordinary()))[:39]} {
		reads(t, s, api.Head{}, api.ErrShort)
	}
}

func TestHd1Read(t *testing.T) {
	for _, h := range []api.Head{
		ordinary(),
		// Nothing but a header: all that it refers to has no byte.
		{Total: 40, Struct: 40, Strings: 40, Reserve: 40},
		{Total: 40, Struct: 40, Strings: 40, Reserve: 40, Boot: 1<<32 - 1},
		{Total: 16384, Struct: 16384, Strings: 16384, Reserve: 16384},
		{Total: 16384, Struct: 40, Strings: 40, Reserve: 40, Texts: 16344, Size: 16344},
		// The parts may be in any order, and may overlap.
		{Total: 72, Struct: 40, Strings: 56, Reserve: 56, Texts: 3, Size: 16},
		{Total: 77, Struct: 60, Strings: 43, Reserve: 48, Boot: 1, Texts: 34, Size: 17},
	} {
		s := written(numbers(h)) + strings.Repeat("x", h.Total-40)
		reads(t, s, h, api.OK)
		// What the bytes behind a header are does not matter, nor what follows them.
		reads(t, s+"more", h, api.OK)
		reads(t, s[:40]+strings.Repeat("\x00", 1<<15), h, api.OK)
	}
}

func TestHd1ReadOfAllLengths(t *testing.T) {
	h := ordinary()
	s := written(numbers(h)) + strings.Repeat("x", 60)
	for n := range 100 {
		reads(t, s[:n], api.Head{}, api.ErrShort)
	}
	reads(t, s, h, api.OK)
	for n := range 40 {
		reads(t, strings.Repeat("\x00", n), api.Head{}, api.ErrShort)
		reads(t, strings.Repeat("\xff", n), api.Head{}, api.ErrShort)
	}
	for n := 40; n < 80; n++ {
		reads(t, strings.Repeat("\x00", n), api.Head{}, api.ErrForm)
		reads(t, strings.Repeat("\xff", n), api.Head{}, api.ErrForm)
	}
}

// One number of a right header of 100 bytes is another one.
func TestHd1ReadOfOneOtherNumber(t *testing.T) {
	const form, big, short = api.ErrForm, api.ErrBig, api.ErrShort
	right := written(numbers(ordinary())) + strings.Repeat("x", 60)
	for place, l := range [10]map[int]api.Errno{
		0: {0xd00dfeed: 0, 0xd00dfeec: form, 0xd00dfeee: form, 0xedfe0dd0: form, 0: form, 1<<32 - 1: form},
		1: {0: form, 39: form, 40: form, 96: form, 99: form, 100: 0, 101: short, 104: short, 16383: short, 16384: short, 16385: big, 1 << 16: big, 1<<32 - 1: big},
		2: {0: form, 36: form, 39: form, 40: 0, 41: form, 42: form, 43: form, 44: 0, 55: form, 57: form, 58: form, 72: 0, 76: 0, 77: form, 80: form, 100: form, 104: form, 1<<32 - 4: form},
		3: {0: form, 39: form, 40: 0, 41: 0, 42: 0, 43: 0, 79: 0, 81: form, 100: form, 101: form, 1<<32 - 1: form, 1<<32 - 20: form},
		4: {0: form, 32: form, 39: form, 41: form, 42: form, 44: form, 48: 0, 56: 0, 80: 0, 84: form, 96: 0, 100: form, 104: form, 1<<32 - 8: form},
		5: {0: form, 1: form, 16: form, 17: 0, 18: 0, 19: 0, 1 << 31: 0, 1<<32 - 1: 0},
		6: {0: 0, 1: 0, 2: 0, 15: 0, 16: 0, 17: 0, 18: form, 19: form, 1 << 31: form, 1<<32 - 1: form},
		7: {0: 0, 1: 0, 1 << 31: 0, 1<<32 - 1: 0},
		8: {0: 0, 1: 0, 19: 0, 20: 0, 21: form, 60: form, 1 << 31: form, 1<<32 - 80: form, 1<<32 - 1: form},
		9: {0: 0, 1: 0, 24: 0, 25: 0, 44: 0, 45: form, 60: form, 1 << 31: form, 1<<32 - 56: form, 1<<32 - 1: form},
	} {
		for n, want := range l {
			l := numbers(ordinary())
			l[place] = n
			h := api.Head{}
			if want == api.OK {
				h = api.Head{Total: l[1], Struct: l[2], Strings: l[3], Reserve: l[4], Boot: l[7], Texts: l[8], Size: l[9]}
			}
			reads(t, written(l)+right[40:], h, want)
		}
	}
}

// Of two errors the one is told that the chapter names first.
func TestHd1OrderOfErrors(t *testing.T) {
	for k, x := range []struct {
		change func(l *[10]int)
		e      api.Errno
	}{
		// What makes no tree of this kind is told ahead of what is too big.
		{func(l *[10]int) { l[0], l[1] = 0xd00dfeec, 16385 }, api.ErrForm},
		{func(l *[10]int) { l[5], l[1] = 16, 16385 }, api.ErrForm},
		{func(l *[10]int) { l[6], l[1] = 18, 16385 }, api.ErrForm},
		// What is too big is told ahead of what else is not valid.
		{func(l *[10]int) { l[1], l[2] = 16385, 57 }, api.ErrBig},
		{func(l *[10]int) { l[1], l[3] = 16385, 39 }, api.ErrBig},
		{func(l *[10]int) { l[1], l[4] = 16385, 0 }, api.ErrBig},
		{func(l *[10]int) { l[1], l[8] = 16385, 1<<32-1 }, api.ErrBig},
		{func(l *[10]int) { l[1], l[9] = 1<<32-1, 1<<32-1 }, api.ErrBig},
		// What is not valid is told ahead of missing bytes.
		{func(l *[10]int) { l[1], l[2] = 16384, 57 }, api.ErrForm},
		{func(l *[10]int) { l[1], l[4] = 104, 44 }, api.ErrForm},
		{func(l *[10]int) { l[1], l[9] = 104, 49 }, api.ErrForm},
		{func(l *[10]int) { l[1], l[9] = 104, 48 }, api.ErrShort},
		{func(l *[10]int) { l[0], l[1] = 0, 104 }, api.ErrForm},
	} {
		l := numbers(ordinary())
		x.change(&l)
		for _, behind := range []int{0, 59, 60} {
			if h, e := Read(written(l) + strings.Repeat("x", behind)); h != (api.Head{}) || e != x.e {
				t.Errorf("case %d with %d bytes: %+v, %v", k, behind, h, e)
			}
			agrees(t, written(l)+strings.Repeat("x", behind))
		}
		// If not even a header is there, that is told first.
		reads(t, written(l)[:39], api.Head{}, api.ErrShort)
	}
}

func TestHd1ReadOfEdges(t *testing.T) {
	behind := strings.Repeat("x", 24)
	found := map[api.Errno]int{}
	heads([7][]int{
		{39, 40, 63, 64, 65, 16384, 16385},
		{36, 40, 42, 60, 64, 68},
		{39, 40, 41, 63, 64, 65},
		{32, 40, 44, 64, 72},
		{0, 1<<32 - 1},
		{0, 1, 24, 25, 1<<32 - 40},
		{0, 1, 4, 24, 1<<32 - 1},
	}, func(h api.Head) {
		found[agrees(t, written(numbers(h))+behind)]++
	})
	for _, e := range []api.Errno{api.OK, api.ErrForm, api.ErrBig, api.ErrShort} {
		if found[e] < 100 {
			t.Errorf("%d times %v", found[e], e)
		}
	}
}

// Each byte of a header, and each two bytes that follow one another, are other ones.
func TestHd1BrokenBytes(t *testing.T) {
	right := written(numbers(ordinary())) + strings.Repeat("x", 60)
	accepted := 0
	for at := range 40 {
		for c := range 256 {
			if agrees(t, right[:at]+string([]byte{byte(c)})+right[at+1:]) == api.OK {
				accepted++
			}
		}
	}
	for at := range 39 {
		for c := range 1 << 16 {
			agrees(t, right[:at]+string([]byte{byte(c >> 8), byte(c)})+right[at+2:])
		}
	}
	if accepted < 1000 {
		t.Errorf("only %d headers were right", accepted)
	}
}

func TestHd1Put(t *testing.T) {
	s, e := Put(api.Head{Total: 0x1234, Struct: 0x0438, Strings: 0x0d21, Reserve: 0x28, Boot: 0x89abcdef, Texts: 0x0321, Size: 0x0543})
	if s != "\xd0\x0d\xfe\xed\x00\x00\x12\x34\x00\x00\x04\x38\x00\x00\x0d\x21\x00\x00\x00\x28\x00\x00\x00\x11\x00\x00\x00\x10\x89\xab\xcd\xef\x00\x00\x03\x21\x00\x00\x05\x43" || e != api.OK {
		t.Errorf("%q, %v", s, e)
	}
	for _, h := range []api.Head{
		{},
		{Boot: 1},
		{Total: 39, Struct: 40, Strings: 40, Reserve: 40},
		{Total: 40, Struct: 36, Strings: 40, Reserve: 40},
		{Total: 40, Struct: 40, Strings: 39, Reserve: 40},
		{Total: 40, Struct: 40, Strings: 40, Reserve: 32},
		{Total: 40, Struct: 44, Strings: 40, Reserve: 40},
		{Total: 40, Struct: 40, Strings: 41, Reserve: 40},
		{Total: 40, Struct: 40, Strings: 40, Reserve: 48},
		{Total: 40, Struct: 40, Strings: 40, Reserve: 40, Boot: -1},
		{Total: 40, Struct: 40, Strings: 40, Reserve: 40, Boot: 1 << 32},
		{Total: 40, Struct: 40, Strings: 40, Reserve: 40, Texts: 1},
		{Total: 40, Struct: 40, Strings: 40, Reserve: 40, Size: 1},
		{Total: 16385, Struct: 40, Strings: 40, Reserve: 40},
		// There are no fewer bytes than none: what was written instead could not be read back.
		{Total: 40, Struct: 40, Strings: 40, Reserve: 40, Texts: -1},
		{Total: 40, Struct: 40, Strings: 40, Reserve: 40, Size: -1},
		{Total: 40, Struct: 40, Strings: 40, Reserve: 40, Size: math.MinInt},
	} {
		if s, e := Put(h); s != "" || e != api.ErrArg {
			t.Errorf("Put(%+v) is %q, %v", h, s, e)
		}
	}
}

// Any two numbers of a right header are any other ones.
func TestHd1PutOfTwoOtherNumbers(t *testing.T) {
	fields := func(h *api.Head) [7]*int {
		return [7]*int{&h.Total, &h.Struct, &h.Strings, &h.Reserve, &h.Boot, &h.Texts, &h.Size}
	}
	accepted := 0
	for i := range 7 {
		for k := range i + 1 {
			for _, m := range extremes() {
				for _, n := range extremes() {
					h := ordinary()
					*fields(&h)[k] = m
					*fields(&h)[i] = n
					if puts(t, h) {
						accepted++
					}
				}
			}
		}
	}
	if accepted < 1000 {
		t.Errorf("only %d headers were right", accepted)
	}
}

func TestHd1Part(t *testing.T) {
	s := "abcdef"
	for at := -3; at < 10; at++ {
		for n := -3; n < 10; n++ {
			want, wantErr := "", api.ErrRange
			if at >= 0 && n >= 0 && at+n <= 6 {
				want, wantErr = s[at:at+n], api.OK
			}
			if p, e := Part(s, api.Span{At: at, N: n}); p != want || e != wantErr {
				t.Errorf("%d bytes from %d on: %q, %v", n, at, p, e)
			}
		}
	}
	for _, x := range []struct {
		s    string
		span api.Span
		want string
		e    api.Errno
	}{
		{"abc", api.Span{}, "", api.OK},
		{"abc", api.Span{N: 3}, "abc", api.OK},
		{"abc", api.Span{At: 3}, "", api.OK},
		{"abc", api.Span{At: 4}, "", api.ErrRange},
		{"abc", api.Span{At: 2, N: 2}, "", api.ErrRange},
		{"", api.Span{}, "", api.OK},
		{"", api.Span{N: 1}, "", api.ErrRange},
		{"", api.Span{At: 1}, "", api.ErrRange},
		{"a\x00\xffb", api.Span{At: 1, N: 2}, "\x00\xff", api.OK},
	} {
		if p, e := Part(x.s, x.span); p != x.want || e != x.e {
			t.Errorf("%+v of %q: %q, %v", x.span, x.s, p, e)
		}
	}
	for _, great := range []int{7, 1 << 31, 1 << 32, 1<<32 + 1, 1 << 62, math.MaxInt - 1, math.MaxInt, -1, math.MinInt, math.MinInt + 1} {
		for _, other := range []int{0, 1, 6, 1 << 62, math.MaxInt, -1, math.MinInt, math.MinInt + 6} {
			for _, x := range []api.Span{{At: great, N: other}, {At: other, N: great}} {
				if p, e := Part(s, x); p != "" || e != api.ErrRange {
					t.Errorf("%+v: %q, %v", x, p, e)
				}
			}
		}
	}
}

// All headers of some numbers that Put takes are read back, with enough bytes, and not with one byte less.
func TestHd2WrittenIsReadBack(t *testing.T) {
	accepted := 0
	heads([7][]int{
		{40, 41, 64, 101, 16384},
		{-4, 40, 44, 60, 64, 16384},
		{39, 40, 63, 64, 101, 16384},
		{-8, 40, 48, 64, 96, 16384},
		{-1, 0, 7, 1<<32 - 1, 1 << 32},
		{-1, 0, 1, 24, 16344, 1 << 32},
		{-1, 0, 1, 24, 16344, 1 << 32},
	}, func(h api.Head) {
		if !puts(t, h) {
			return
		}
		accepted++
		s, _ := Put(h)
		s += strings.Repeat("y", h.Total-40)
		for _, behind := range []string{"", "z"} {
			if k, e := Read(s + behind); k != h || e != api.OK {
				t.Fatalf("%+v is read back as %+v, %v", h, k, e)
			}
		}
		if k, e := Read(s[:len(s)-1]); k != (api.Head{}) || e != api.ErrShort {
			t.Fatalf("%+v without its last byte: %+v, %v", h, k, e)
		}
	})
	if accepted < 500 {
		t.Errorf("only %d headers were right", accepted)
	}
}

// What was read, of whatever version, is written with the numbers of this one, and read back.
func TestHd2ReadIsReadBack(t *testing.T) {
	behind := strings.Repeat("x", 60)
	for _, version := range []int{17, 18, 1<<32 - 1} {
		for _, oldest := range []int{0, 1, 16, 17} {
			l := numbers(ordinary())
			l[5], l[6] = version, oldest
			h, e := Read(written(l) + behind)
			s, put := Put(h)
			if e != api.OK || put != api.OK || s != written(numbers(ordinary())) {
				t.Errorf("version %d, %d: %v, %q, %v", version, oldest, e, s, put)
			}
			reads(t, s+behind, h, api.OK)
		}
	}
}

// Of each header that is read, all that it refers to is within its bytes, and none of it within the header.
func TestHd2WhatIsReferredToIsThere(t *testing.T) {
	all := strings.Repeat("x", 16384)
	accepted := 0
	heads([7][]int{
		{40, 47, 48, 64, 16384},
		{0, 36, 40, 44, 48, 64, 16384},
		{0, 39, 40, 41, 48, 64, 16384},
		{0, 32, 40, 48, 64, 16384},
		{0},
		{0, 1, 7, 8, 9, 24, 16344, 1<<32 - 40, 1<<32 - 1},
		{0, 1, 7, 8, 9, 24, 16344, 1<<32 - 40, 1<<32 - 1},
	}, func(h api.Head) {
		s := written(numbers(h)) + all
		k, e := Read(s)
		if e != api.OK {
			return
		}
		accepted++
		for _, x := range []api.Span{{At: k.Struct, N: k.Size}, {At: k.Strings, N: k.Texts}, {At: k.Reserve}} {
			p, e := Part(s[:k.Total], x)
			if e != api.OK || len(p) != x.N || x.At < 40 {
				t.Fatalf("%+v: the span %+v is %d bytes, %v", k, x, len(p), e)
			}
		}
	})
	if accepted < 500 {
		t.Errorf("only %d headers were right", accepted)
	}
}
