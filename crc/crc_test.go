package crc

import (
	"hash/crc32"
	"math"
	"slices"
	"strings"
	"testing"

	"postilion/api"
)

// bytesOf are so many bytes of all values, in an order that does not repeat soon.
func bytesOf(n int) string {
	b := make([]byte, n)
	for i := range b {
		b[i] = byte(i*37 + i/256*11 + i/7)
	}
	return string(b)
}

// texts are ordinary strings, the edges of their lengths, and bytes of all values.
func texts() []string {
	l := []string{"", "a", "abc", "123456789", "\x00", "\xff", "\x00\x00\x00\x00", "\xff\xff\xff\xff", "\u00e4\u20ac", "\xc3\x28",
		strings.Repeat("\x00", api.Sector), strings.Repeat("\xff", api.Sector), bytesOf(api.FlashSize)}
	for b := range 256 {
		l = append(l, string([]byte{byte(b)}))
	}
	for n := range 70 {
		l = append(l, bytesOf(n))
	}
	return l
}

// right is the checksum by Go's library.
func right(s string) int {
	return int(crc32.ChecksumIEEE([]byte(s)))
}

// flip is a string with the bits of a pattern changed from a bit on; the lowest bit of a byte is its first, as a step takes it first. (With the highest first, Cr2 would not hold of this checksum: the 31 bits 058ff46a70 in five bytes leave it as it was.)
func flip(s string, at int, pattern uint32) string {
	b := []byte(s)
	for k := range 32 {
		if pattern>>k&1 == 1 {
			b[(at+k)/8] ^= 1 << ((at + k) % 8)
		}
	}
	return string(b)
}

// ways are the checksum in each way in which it can be had.
func ways(s string) []int {
	return []int{Sum(s), Slow(s), More(0, s), Sum(s[:len(s)/2], s[len(s)/2:]), More(Slow(s[:len(s)/3]), s[len(s)/3:])}
}

func TestExample(t *testing.T) {
	if got := Sum(`123456789`); got != 0xcbf43926 {
		t.Errorf("Sum is %x", got)
	}
}

func TestCr1Entry(t *testing.T) {
	for b := range 256 {
		want := int(crc32.IEEETable[b])
		for _, n := range []int{b, b + 256, b - 256, b | 1<<31, b | 1<<32, b | 0xd00dfe<<8, b | math.MaxInt&^0xff, b | math.MinInt} {
			if got := Entry(n); got != want {
				t.Errorf("Entry(%d) is %x, not %x", n, got, want)
			}
		}
	}
	for b, want := range map[int]int{0: 0, 1: 0x77073096, 2: 0xee0e612c, 128: 3988292384, 255: 0x2d02ef8d, -1: 0x2d02ef8d, -128: 3988292384, math.MaxInt: 0x2d02ef8d, math.MinInt: 0} {
		if got := Entry(b); got != want {
			t.Errorf("Entry(%d) is %x, not %x", b, got, want)
		}
	}
}

func TestCr1SumAndSlow(t *testing.T) {
	for s, want := range map[string]int{"": 0, "\x00": 0xd202ef8d, "\xff": 0xff000000, "a": 0xe8b7be43, "abc": 0x352441c2, "123456789": 0xcbf43926, "\x00\x00\x00\x00": 0x2144df1c, "\xff\xff\xff\xff": 0xffffffff} {
		if sum, slow := Sum(s), Slow(s); sum != want || slow != want {
			t.Errorf("of %q: Sum %x, Slow %x, not %x", s, sum, slow, want)
		}
	}
	for _, s := range texts() {
		want := right(s)
		if sum, slow := Sum(s), Slow(s); sum != want || slow != want {
			t.Errorf("of %d bytes: Sum %x, Slow %x, not %x", len(s), sum, slow, want)
		}
	}
}

func TestCr1SumOfParts(t *testing.T) {
	for _, parts := range [][]string{nil, {}, {""}, {"", ""}} {
		if got := Sum(parts...); got != 0 {
			t.Errorf("Sum of %d parts without a byte is %x", len(parts), got)
		}
	}
	s := bytesOf(40)
	want := right(s)
	for i := range len(s) + 1 {
		for j := i; j <= len(s); j++ {
			if got := Sum(s[:i], s[i:j], s[j:]); got != want {
				t.Errorf("parted at %d and %d: %x, not %x", i, j, got, want)
			}
		}
	}
	var each []string
	for i := range len(s) {
		each = append(each, "", s[i:i+1])
	}
	if got := Sum(each...); got != want {
		t.Errorf("byte by byte: %x, not %x", got, want)
	}
	if Sum("ab", "c") == Sum("c", "ab") {
		t.Error("the order of parts makes no difference")
	}
}

func TestCr1More(t *testing.T) {
	s := bytesOf(64)
	want := right(s)
	for k := range len(s) + 1 {
		sum := right(s[:k])
		for _, upper := range []int{0, 1, 5 << 8, 1 << 30, 1<<31 - 1, 1 << 31, -1} {
			given := sum | upper<<32
			if got := More(given, s[k:]); got != want {
				t.Errorf("More(%x, the bytes from %d on) is %x, not %x", given, k, got, want)
			}
		}
	}
	for _, sum := range []int{0, 1, 0xcbf43926, 1 << 31, api.Max32, api.Max32 + 1, api.MaxInt, -1, math.MinInt} {
		if got := More(sum, ""); got != int(uint32(sum)) {
			t.Errorf("More(%d, no bytes) is %x", sum, got)
		}
		if got, want := More(sum, s), int(crc32.Update(uint32(sum), crc32.IEEETable, []byte(s))); got != want {
			t.Errorf("More(%d, 64 bytes) is %x, not %x", sum, got, want)
		}
	}
}

func TestCr2BothWaysAreTheSame(t *testing.T) {
	for _, s := range texts() {
		for k, got := range ways(s) {
			if want := Slow(s); got != want || got < 0 || got > api.Max32 {
				t.Errorf("of %d bytes, way %d: %x, not %x", len(s), k, got, want)
			}
		}
	}
	for pair := range 1 << 16 {
		s := string([]byte{byte(pair >> 8), byte(pair)})
		if sum, slow := Sum(s), Slow(s); sum != slow {
			t.Errorf("of %q: Sum %x, Slow %x", s, sum, slow)
		}
	}
}

func TestCr2ShortChangesAreSeen(t *testing.T) {
	for _, s := range []string{bytesOf(24), strings.Repeat("\x00", 24), strings.Repeat("\xff", 24)} {
		before := ways(s)
		for at := range len(s) * 8 {
			for _, shape := range []uint32{1, 0x80000001, 0xffffffff, 0xedb88320, 0xdb710641, 0x82608edb, 0x55555555, 0xdeadbeef} {
				room := len(s)*8 - at
				if room < 32 {
					shape &= 1<<room - 1
				}
				if shape == 0 {
					continue
				}
				for k, after := range ways(flip(s, at, shape)) {
					if after == before[k] {
						t.Errorf("way %d does not see %x from bit %d on", k, shape, at)
					}
				}
			}
		}
	}
	for change := 1; change < 256; change++ {
		for k, after := range ways(flip("x", 0, uint32(change))) {
			if after == ways("x")[k] {
				t.Errorf("way %d does not see %x in one byte", k, change)
			}
		}
	}
}

// changes are what the change of each of 32 bits from a bit on does to the checksum.
func changes(sum func(string) int, s string, at int) []uint32 {
	var l []uint32
	for k := range 32 {
		l = append(l, uint32(sum(flip(s, at, 1<<k))^sum(s)))
	}
	return l
}

// independent tells whether no choice of some of the numbers has the xor 0.
func independent(l []uint32) bool {
	l = slices.Clone(l)
	for i, n := range l {
		if n == 0 {
			return false
		}
		for j := i + 1; j < len(l); j++ {
			if l[j]&(n&-n) != 0 {
				l[j] ^= n
			}
		}
	}
	return true
}

// All changes of 32 bits are too many to be tried one by one. But what several changed bits do together is the xor of what each of them does; so no change is unseen if those of single bits are independent.
func TestCr2EveryChangeOf32BitsIsSeen(t *testing.T) {
	s := bytesOf(20)
	one := func(s string) int { return Sum(s) }
	for _, sum := range []func(string) int{one, Slow} {
		for at := range len(s)*8 - 31 {
			single := changes(sum, s, at)
			if !independent(single) {
				t.Errorf("some change from bit %d on is not seen", at)
			}
			pattern := uint32(1)
			for range 50 {
				pattern = pattern*1664525 + 1013904223
				var want uint32
				for k := range 32 {
					want ^= single[k] & -(pattern >> k & 1)
				}
				if got := uint32(sum(flip(s, at, pattern)) ^ sum(s)); got != want {
					t.Errorf("changing %x from bit %d on changes the sum by %x, not %x", pattern, at, got, want)
				}
			}
		}
	}
}

func TestR3ArgumentsStayAsTheyAre(t *testing.T) {
	all := []string{"12345", "", "6789", "behind"}
	before := slices.Clone(all)
	if got := Sum(all[:3]...); got != 0xcbf43926 {
		t.Errorf("%x", got)
	}
	if !slices.Equal(all, before) {
		t.Errorf("the list became %q", all)
	}
}

func TestR4AnswersAreAlwaysTheSame(t *testing.T) {
	s := bytesOf(100)
	first := ways(s)
	Sum("other", "bytes")
	More(-1, "and more")
	if second := ways(s); !slices.Equal(second, first) {
		t.Errorf("%x, then %x", first, second)
	}
}
