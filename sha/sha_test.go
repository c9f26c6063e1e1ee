package sha

import (
	"crypto/sha256"
	"fmt"
	"math/big"
	"slices"
	"strings"
	"testing"

	"postilion/api"
)

// bytesOf are so many bytes of all values, in an order that does not repeat soon.
func bytesOf(n int) string {
	b := make([]byte, n)
	for i := range b {
		b[i] = byte(i*37 + i/256*11 + i/7)
	}
	return string(b)
}

// right is the hash by Go's library.
func right(s string) string {
	sum := sha256.Sum256([]byte(s))
	return string(sum[:])
}

// cut are the pieces of a string that have so many bytes each; the last one may have fewer.
func cut(s string, n int) []string {
	var l []string
	for len(s) > n {
		l = append(l, s[:n])
		s = s[n:]
	}
	return append(l, s)
}

// known are hashes that were published.
func known() map[string]string {
	return map[string]string{
		"":    "e3b0c44298fc1c149afbf4c8996fb92427ae41e4649b934ca495991b7852b855",
		"abc": "ba7816bf8f01cfea414140de5dae2223b00361a396177a9cb410ff61f20015ad",
		"abcdbcdecdefdefgefghfghighijhijkijkljklmklmnlmnomnopnopq":                                                         "248d6a61d20638b8e5c026930c3e6039a33ce45964ff2167f6ecedd419db06c1",
		"abcdefghbcdefghicdefghijdefghijkefghijklfghijklmghijklmnhijklmnoijklmnopjklmnopqklmnopqrlmnopqrsmnopqrstnopqrstu": "cf5b16a778af8380036ce59e7b0492370b249b11e8f07a51afac45037afee9d1",
		"\xbd":                          "68325720aabd7c82f30f554b313d0570c95accbb7dc4b5aae11204c08ffe732b",
		strings.Repeat("a", 1000000):    "cdc76e5c9914fb9281a1c7e284d73e67f1809a48a497200e046d39ccc7112cd0",
		strings.Repeat("\x00", 1000000): "d29751f2649b32ff572b5e0a9f541ea660a50f94ff0beedfb0b692b924cc8025",
	}
}

func TestExample(t *testing.T) {
	if got := Sum(); !strings.HasPrefix(got, "\xe3\xb0\xc4\x42") {
		t.Errorf("the hash of nothing is %x", got)
	}
}

func TestSh1SumIsAsPublished(t *testing.T) {
	for s, want := range known() {
		if got := fmt.Sprintf("%x", Sum(s)); got != want {
			t.Errorf("the hash of %d bytes is %s, not %s", len(s), got, want)
		}
	}
}

// All lengths up to several blocks are tried: what is appended is longest and shortest at 55, 56, 63 and 64 bytes, and again behind each block.
func TestSh1SumOfAllLengths(t *testing.T) {
	lengths := []int{api.Sector, api.SlotSize, api.FlashSize, api.RamSize - 1, api.RamSize, api.RamSize + 1, 1 << 21, 1<<21 + 1, 1 << 22}
	for n := range 400 {
		lengths = append(lengths, n)
	}
	for _, n := range lengths {
		for _, s := range []string{bytesOf(n), strings.Repeat("\x00", n), strings.Repeat("\xff", n), strings.Repeat("\x80", n)} {
			if got, want := Sum(s), right(s); got != want || len(got) != 32 {
				t.Errorf("the hash of %d bytes is %x, not %x", n, got, want)
			}
		}
	}
}

func TestSh1SumOfAllShortStrings(t *testing.T) {
	for b := range 256 {
		s := string([]byte{byte(b)})
		if got, want := Sum(s), right(s); got != want {
			t.Errorf("the hash of %q is %x, not %x", s, got, want)
		}
	}
	for pair := range 1 << 16 {
		s := string([]byte{byte(pair >> 8), byte(pair)})
		if got, want := Sum(s), right(s); got != want {
			t.Errorf("the hash of %q is %x, not %x", s, got, want)
		}
	}
}

func TestSh1SumOfParts(t *testing.T) {
	for _, parts := range [][]string{nil, {}, {""}, {"", ""}} {
		if got, want := Sum(parts...), right(""); got != want {
			t.Errorf("the hash of %d parts without a byte is %x", len(parts), got)
		}
	}
	if Sum("ab", "c") != right("abc") || Sum("c", "ab") != right("cab") || Sum("", "abc", "") != right("abc") {
		t.Error("parts are not taken one after the other")
	}
}

func TestSh1ZeroStreamHasReceivedNothing(t *testing.T) {
	var x Stream
	y := new(Stream)
	for _, z := range []*Stream{&x, y, {}} {
		if z.Sum() != right("") || z.Len() != 0 {
			t.Errorf("%x, %d", z.Sum(), z.Len())
		}
		for _, parts := range [][]string{nil, {}, {""}, {"", "", ""}} {
			z.Write(parts...)
			if z.Sum() != right("") || z.Len() != 0 {
				t.Errorf("behind %d parts without a byte: %x, %d", len(parts), z.Sum(), z.Len())
			}
		}
	}
}

func TestSh1WriteAppends(t *testing.T) {
	var x Stream
	var all string
	for n := range 200 {
		piece, next := bytesOf(n), bytesOf(n%67)
		x.Write(piece, "", next)
		all += piece + next
		if x.Sum() != right(all) || x.Len() != len(all) {
			t.Errorf("behind %d bytes: %x, %d", len(all), x.Sum(), x.Len())
		}
	}
}

func TestSh1SumChangesNothing(t *testing.T) {
	s := bytesOf(200)
	for k := range len(s) + 1 {
		var x Stream
		x.Write(s[:k])
		before := x
		first := x.Sum()
		if second := x.Sum(); first != right(s[:k]) || second != first {
			t.Errorf("behind %d bytes: %x, then %x", k, first, second)
		}
		if x != before || x.Len() != k {
			t.Errorf("Sum changed the Stream behind %d bytes", k)
		}
		x.Write(s[k:])
		if x.Sum() != right(s) || x.Len() != len(s) {
			t.Errorf("continued behind %d bytes: %x, %d", k, x.Sum(), x.Len())
		}
	}
}

func TestSh1StreamsAreApart(t *testing.T) {
	s := bytesOf(300)
	for k := range 150 {
		var x, other Stream
		x.Write(s[:k])
		y := x
		x.Write(s[k:200])
		other.Write("something else")
		y.Write(s[k:])
		if x.Sum() != right(s[:200]) || x.Len() != 200 || y.Sum() != right(s) || y.Len() != 300 || other.Sum() != right("something else") || other.Len() != 14 {
			t.Errorf("a copy behind %d bytes: %x and %x", k, x.Sum(), y.Sum())
		}
	}
}

func TestSh1NilStream(t *testing.T) {
	var x *Stream
	for _, parts := range [][]string{nil, {""}, {"a"}, {"abc", bytesOf(200)}} {
		x.Write(parts...)
		if x.Sum() != "" || x.Len() != 0 {
			t.Errorf("%q, %d", x.Sum(), x.Len())
		}
	}
}

func TestSh1Equal(t *testing.T) {
	l := []string{"", "\x00", "\x00\x00", "a", "b", "ab", "ba", "aa", "abc", "abd", "bbc", "aBc", "abc\x00", "\x00abc", "\xff", "\xff\xff", "\u00e4", "\xc3", Sum(), Sum("a"), Sum("b")}
	for i, a := range l {
		for j, b := range l {
			if got := Equal(a, strings.Clone(b)); got != (i == j) {
				t.Errorf("Equal(%q, %q) is %v", a, b, got)
			}
		}
	}
	for _, n := range []int{1, 2, 31, 32, 33, 64, 1000} {
		s := bytesOf(n)
		if !Equal(s, strings.Clone(s)) || Equal(s, s[1:]) || Equal(s[:n-1], s) || Equal(s, s+"\x00") || Equal(s+s[:1], s) {
			t.Errorf("of %d bytes", n)
		}
		for bit := range n * 8 {
			b := []byte(s)
			b[bit/8] ^= 1 << (bit % 8)
			if Equal(s, string(b)) || Equal(string(b), s) {
				t.Errorf("of %d bytes, bit %d is not seen", n, bit)
			}
		}
	}
}

// Two changes that would cancel each other out must be seen too.
func TestSh1EqualSeesSeveralChanges(t *testing.T) {
	for _, c := range [][2]string{{"\x01\x01", "\x00\x00"}, {"\x01\x02\x03", "\x00\x00\x00"}, {"\x80\x80", "\x00\x00"}, {"\x01\xff", "\x00\x00"}, {"\x01\x00", "\x00\x01"}, {"abcabc", "bcabca"}, {strings.Repeat("\x01", 256), strings.Repeat("\x00", 256)}} {
		if Equal(c[0], c[1]) || Equal(c[1], c[0]) {
			t.Errorf("Equal(%q, %q)", c[0], c[1])
		}
	}
}

func TestSh2TwoPlaces(t *testing.T) {
	s := bytesOf(150)
	want := right(s)
	for i := range len(s) + 1 {
		for j := i; j <= len(s); j++ {
			var x Stream
			x.Write(s[:i])
			x.Write(s[i:j], s[j:])
			if Sum(s[:i], s[i:j], s[j:]) != want || x.Sum() != want || x.Len() != len(s) {
				t.Errorf("divided at %d and %d: %x, %x", i, j, Sum(s[:i], s[i:j], s[j:]), x.Sum())
			}
		}
	}
}

func TestSh2PiecesOfOneLength(t *testing.T) {
	for _, total := range []int{0, 1, 55, 56, 63, 64, 65, 119, 120, 127, 128, 129, 1000} {
		s := bytesOf(total)
		want := right(s)
		for n := 1; n <= 140; n++ {
			pieces := cut(s, n)
			var x Stream
			for _, piece := range pieces {
				x.Write("", piece)
			}
			if Sum(pieces...) != want || x.Sum() != want || x.Len() != total {
				t.Errorf("%d bytes in pieces of %d: %x, %x", total, n, Sum(pieces...), x.Sum())
			}
		}
	}
}

func TestSh2PiecesOfManyLengths(t *testing.T) {
	s := bytesOf(3000)
	want := right(s)
	seed := uint32(1)
	for range 300 {
		var pieces []string
		rest := s
		for len(rest) > 0 {
			seed = seed*1664525 + 1013904223
			n := min(int(seed>>16)%(1+int(seed>>8)%200), len(rest))
			pieces = append(pieces, rest[:n])
			rest = rest[n:]
		}
		var x Stream
		x.Write(pieces[:len(pieces)/2]...)
		x.Sum()
		x.Write(pieces[len(pieces)/2:]...)
		if Sum(pieces...) != want || x.Sum() != want || x.Len() != len(s) {
			t.Errorf("%d pieces: %x, %x", len(pieces), Sum(pieces...), x.Sum())
		}
	}
}

// primes are the first so many.
func primes(many int) []int64 {
	var l []int64
	for n := int64(2); len(l) < many; n++ {
		if !slices.ContainsFunc(l, func(p int64) bool { return n%p == 0 }) {
			l = append(l, n)
		}
	}
	return l
}

// behindThePoint reports whether bits are the first 32 behind the point of a root of a prime: the root times 2^32, cut off, then ends with them.
func behindThePoint(bits uint32, prime, degree int64) bool {
	power := func(n *big.Int) *big.Int { return new(big.Int).Exp(n, big.NewInt(degree), nil) }
	want := new(big.Int).Lsh(big.NewInt(prime), uint(32*degree))
	for whole := range int64(20) {
		n := big.NewInt(whole<<32 | int64(bits))
		next := new(big.Int).Add(n, big.NewInt(1))
		if power(n).Cmp(want) <= 0 && power(next).Cmp(want) > 0 {
			return true
		}
	}
	return false
}

func TestTermsTheConstantsAreThoseOfRoots(t *testing.T) {
	l := primes(64)
	for i, n := range beginning() {
		if !behindThePoint(n, l[i], 2) {
			t.Errorf("number %d, %x, is not that of the square root of %d", i, n, l[i])
		}
	}
	for i, n := range constants() {
		if !behindThePoint(n, l[i], 3) {
			t.Errorf("constant %d, %x, is not that of the cube root of %d", i, n, l[i])
		}
	}
}

// The lengths whose bits fill more than four bytes are too long to be hashed here; what is appended to them is not.
func TestTermsWhatIsAppended(t *testing.T) {
	lengths := []int{1<<29 - 1, 1 << 29, 1<<29 + 1, 1<<31 - 1}
	for n := range 200 {
		lengths = append(lengths, n)
	}
	for _, n := range lengths {
		got := ending(n)
		zeros := len(got) - 9
		if (n+len(got))%64 != 0 || zeros < 0 || zeros > 63 {
			t.Fatalf("to %d bytes, %d are appended", n, len(got))
		}
		if want := "\x80" + strings.Repeat("\x00", zeros) + string(big.NewInt(int64(n)*8).FillBytes(make([]byte, 8))); got != want {
			t.Errorf("to %d bytes, %x is appended, not %x", n, got, want)
		}
	}
}

func TestR3ArgumentsStayAsTheyAre(t *testing.T) {
	all := []string{"a", "", "bc", "behind"}
	before := slices.Clone(all)
	var x Stream
	x.Write(all[:3]...)
	if Sum(all[:3]...) != right("abc") || x.Sum() != right("abc") {
		t.Errorf("%x, %x", Sum(all[:3]...), x.Sum())
	}
	if !slices.Equal(all, before) {
		t.Errorf("the list became %q", all)
	}
}

// A Stream may not keep the list that it was given: the caller may change it.
func TestR3ListsAreNotKept(t *testing.T) {
	l := []string{"a", "bc"}
	var x Stream
	x.Write(l...)
	l[0], l[1] = "x", "yz"
	if x.Sum() != right("abc") {
		t.Errorf("%x", x.Sum())
	}
}

func TestR4AnswersAreAlwaysTheSame(t *testing.T) {
	s := bytesOf(100)
	first := Sum(s)
	var x Stream
	x.Write("other", "bytes")
	Sum("more of them")
	if second := Sum(s); second != first {
		t.Errorf("%x, then %x", first, second)
	}
}
