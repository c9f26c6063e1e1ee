package record

import (
	"encoding/binary"
	"hash/crc32"
	"math"
	"math/big"
	"math/rand/v2"
	"slices"
	"strings"
	"testing"

	"postilion/api"
)

// sample are so many bytes of all values, in an order that does not repeat soon.
func sample(n int) string {
	b := make([]byte, n)
	for i := range b {
		b[i] = byte(i*37 + i/256*11 + i/7 + 5)
	}
	return string(b)
}

// bigs are the four bytes of each of some numbers, by Go's library.
func bigs(l ...int) string {
	var b []byte
	for _, n := range l {
		b = binary.BigEndian.AppendUint32(b, uint32(n))
	}
	return string(b)
}

// sumOf is the checksum of some bytes, by Go's library.
func sumOf(s string) int { return int(crc32.ChecksumIEEE([]byte(s))) }

// put are a mark, three numbers and what follows them, right or wrong.
func put(mark string, serial, many, sum int, behind string) string {
	return mark + bigs(serial, many, sum) + behind
}

// right is a record as the chapter says it.
func right(serial int, data string) string {
	return put("PENV", serial, len(data), sumOf(bigs(serial, len(data))+data), data)
}

// other is a string of which one byte is another one.
func other(s string, at int, c byte) string {
	return s[:at] + string([]byte{c}) + s[at+1:]
}

// slowRead reads a record as the chapter says it, error by error, byte by byte.
func slowRead(s string) (api.Rec, api.Errno) {
	if len(s) < 16 {
		return api.Rec{}, api.ErrShort
	}
	for k, c := range []byte{'P', 'E', 'N', 'V'} {
		if s[k] != c {
			return api.Rec{}, api.ErrForm
		}
	}
	var l [3]int
	for k := range 12 {
		l[k/4] = l[k/4]*256 + int(s[4+k])
	}
	if l[1] > 496 {
		return api.Rec{}, api.ErrBig
	}
	if len(s)-16 < l[1] {
		return api.Rec{}, api.ErrShort
	}
	if sumOf(s[4:12]+s[16:16+l[1]]) != l[2] {
		return api.Rec{}, api.ErrHash
	}
	return api.Rec{Serial: l[0], Data: s[16 : 16+l[1]]}, api.OK
}

// reads fails if Read does not answer a record, or an error and nothing else, or if slowRead answers otherwise.
func reads(t *testing.T, s string, want api.Rec, wantErr api.Errno) {
	t.Helper()
	if r, e := Read(s); r != want || e != wantErr {
		t.Errorf("Read(%.40q) of %d bytes is %.60q, %v, not %.60q, %v", s, len(s), r.Data, e, want.Data, wantErr)
	}
	if r, e := slowRead(s); r != want || e != wantErr {
		t.Errorf("the plain reading of %.40q of %d bytes is %.60q, %v, not %.60q, %v", s, len(s), r.Data, e, want.Data, wantErr)
	}
}

// agrees fails if Read does not answer what slowRead does.
func agrees(t *testing.T, s string) api.Errno {
	t.Helper()
	want, wantErr := slowRead(s)
	r, e := Read(s)
	if r != want || e != wantErr {
		t.Fatalf("Read(%.40q) of %d bytes is %+v, %v, not %+v, %v", s, len(s), r, e, want, wantErr)
	}
	return e
}

// serials are the edges of serial numbers, and ordinary ones between them.
func serials() []int {
	return []int{0, 1, 2, 255, 256, 258, 65535, 65536, 1<<24 - 1, 1 << 24, 0x01020304, 1<<31 - 1, 1 << 31, 1<<31 + 1, 0xd00dfeed, 1<<32 - 2, 1<<32 - 1}
}

// outside are numbers that are no serial numbers.
func outside() []int {
	return []int{math.MinInt, math.MinInt + 1, -1 << 32, -1 << 31, -258, -2, -1, 1 << 32, 1<<32 + 1, 1<<32 + 258, 1 << 33, 1 << 62, math.MaxInt - 1, math.MaxInt}
}

func TestExample(t *testing.T) {
	if n := Next(1<<32 - 1); n != 0 || !Newer(n, 1<<32-1) || Newer(1<<32-1, n) {
		t.Errorf("Next is %d", n)
	}
}

func TestRe1Mark(t *testing.T) {
	if Mark != "\x50\x45\x4e\x56" {
		t.Errorf("%q", Mark)
	}
}

// The checksums of these bytes were computed by another program.
func TestRe1Body(t *testing.T) {
	for _, x := range []struct {
		serial int
		data   string
		want   string
	}{
		{0, "", "\x00\x00\x00\x00\x00\x00\x00\x00\x65\x22\xdf\x69"},
		{1, "", "\x00\x00\x00\x01\x00\x00\x00\x00\x58\x42\xf6\xd9"},
		{258, "k=v\n", "\x00\x00\x01\x02\x00\x00\x00\x04\x16\x45\x12\xb8k=v\n"},
		{1<<32 - 1, "", "\xff\xff\xff\xff\x00\x00\x00\x00\xff\xff\xff\xff"},
		{1 << 31, "a=1\n", "\x80\x00\x00\x00\x00\x00\x00\x04\x67\x33\x07\x46a=1\n"},
		{5, "\x00\xff\x80", "\x00\x00\x00\x05\x00\x00\x00\x03\x4f\x4e\x6e\x34\x00\xff\x80"},
		{7, "PENV", "\x00\x00\x00\x07\x00\x00\x00\x04\xbb\x9a\xdb\xa5PENV"},
	} {
		if s, e := Body(api.Rec{Serial: x.serial, Data: x.data}); s != x.want || e != api.OK {
			t.Errorf("Body of %d, %q is %q, %v", x.serial, x.data, s, e)
		}
		reads(t, Mark+x.want, api.Rec{Serial: x.serial, Data: x.data}, api.OK)
	}
}

func TestRe1BodyOfAllLengths(t *testing.T) {
	all := sample(600)
	for n := range 601 {
		for _, serial := range []int{0, 258, 1<<32 - 1} {
			want, wantErr := "", api.ErrBig
			if n <= 496 {
				want, wantErr = right(serial, all[:n])[4:], api.OK
			}
			if s, e := Body(api.Rec{Serial: serial, Data: all[:n]}); s != want || e != wantErr {
				t.Errorf("Body of %d with %d bytes is %.40q, %v", serial, n, s, e)
			}
		}
	}
}

func TestRe1BodyErrors(t *testing.T) {
	for _, n := range []int{0, 1, 4, 496, 497, 600, 1 << 16} {
		data := sample(n)
		// A wrong number is told ahead of too many bytes.
		for _, serial := range outside() {
			if s, e := Body(api.Rec{Serial: serial, Data: data}); s != "" || e != api.ErrArg {
				t.Errorf("Body of %d with %d bytes is %.40q, %v", serial, n, s, e)
			}
		}
		for _, serial := range serials() {
			want, wantErr := "", api.ErrBig
			if n <= 496 {
				want, wantErr = right(serial, data)[4:], api.OK
			}
			if s, e := Body(api.Rec{Serial: serial, Data: data}); s != want || e != wantErr {
				t.Errorf("Body of %d with %d bytes is %.40q, %v", serial, n, s, e)
			}
		}
	}
}

func TestRe1ReadOfAllLengths(t *testing.T) {
	for _, n := range []int{0, 1, 4, 16, 100, 495, 496} {
		r := api.Rec{Serial: 258, Data: sample(n)}
		s := right(258, r.Data)
		for k := range s {
			reads(t, s[:k], api.Rec{}, api.ErrShort)
		}
		reads(t, s, r, api.OK)
	}
	// What is too short for any record is told so, whatever it is.
	for n := range 20 {
		want := api.ErrForm
		if n < 16 {
			want = api.ErrShort
		}
		for _, c := range []string{"\x00", "\xff", "P", "V"} {
			reads(t, strings.Repeat(c, n), api.Rec{}, want)
		}
	}
}

func TestRe1ReadOfOtherMarks(t *testing.T) {
	s := right(258, "k=v\n")
	for _, mark := range []string{"", "PEN", "ENV", "penv", "PENv", "VNEP", "xENV", "PExV", "\x00\x00\x00\x00", "\xff\xff\xff\xff", " PENV", "\x00PENV", "PPENV", "PEN V"} {
		reads(t, mark+s[4:], api.Rec{}, api.ErrForm)
	}
	for _, sector := range []string{strings.Repeat("\x00", 512), strings.Repeat("\xff", 512), "\x00\x00\x00\x00" + right(1, sample(496))[4:], sample(512)} {
		reads(t, sector, api.Rec{}, api.ErrForm)
	}
}

// The number of bytes is any one, and the checksum is right for it.
func TestRe1ReadOfAnyNumberOfBytes(t *testing.T) {
	data := sample(700)
	for _, there := range []int{0, 1, 4, 495, 496, 497, 700} {
		for many := range 700 {
			want, wantErr := api.Rec{}, api.OK
			switch {
			case many > 496:
				wantErr = api.ErrBig
			case many > there:
				wantErr = api.ErrShort
			default:
				want = api.Rec{Serial: 77, Data: data[:many]}
			}
			sum := sumOf(bigs(77, many) + data[:many])
			reads(t, put("PENV", 77, many, sum, data[:there]), want, wantErr)
		}
		// Of 32 bits all count, and none is a sign.
		for _, many := range []int{1 << 16, 1<<16 + 4, 1 << 24, 1<<31 - 1, 1 << 31, 1<<31 + 4, 1<<32 - 16, 1<<32 - 1} {
			for _, sum := range []int{0, sumOf(bigs(77, many)), sumOf(bigs(77, many) + data[:there])} {
				reads(t, put("PENV", 77, many, sum, data[:there]), api.Rec{}, api.ErrBig)
			}
		}
	}
}

// The checksum is that of the two numbers and the data, in this order, and of nothing else.
func TestRe1ReadOfOtherChecksums(t *testing.T) {
	const data = "k=v\n"
	numbers := bigs(258, 4)
	sum := sumOf(numbers + data)
	for k, wrong := range []int{
		0, 5, 1<<32 - 1, sum ^ 1, sum ^ 1<<31, sum + 1, sum ^ (1<<32 - 1), int(binary.LittleEndian.Uint32([]byte(bigs(sum)))),
		sumOf(data), sumOf(numbers), sumOf(numbers[:4] + data), sumOf(numbers[4:] + data), sumOf("PENV" + numbers + data),
		sumOf(data + numbers), sumOf(bigs(4, 258) + data), sumOf(numbers + data + "\x00"), sumOf(numbers + data + "more"), sumOf(numbers + data[:3]),
		sumOf(numbers + bigs(0) + data), sumOf(numbers + bigs(sum) + data), sumOf(numbers) ^ sumOf(data),
	} {
		if wrong == sum {
			t.Errorf("checksum %d is right", k)
		}
		for _, behind := range []string{"", "more", "\x00"} {
			reads(t, put("PENV", 258, 4, wrong, data+behind), api.Rec{}, api.ErrHash)
		}
	}
	reads(t, put("PENV", 258, 4, sum, data), api.Rec{Serial: 258, Data: data}, api.OK)
}

// Of all that is wrong with a record, what the chapter names first is told.
func TestRe1OrderOfErrors(t *testing.T) {
	const cut, form, great, missing, hash = 1, 2, 4, 8, 16
	for faults := range 32 {
		mark, many, want := "PENV", 9, api.OK
		if faults&form != 0 {
			mark = "PENW"
		}
		if faults&great != 0 {
			many = 497
		}
		data := sample(many)
		sum := sumOf(bigs(3, many) + data)
		if faults&hash != 0 {
			sum ^= 1 << 9
		}
		if faults&missing != 0 {
			data = data[:many-1]
		}
		s := put(mark, 3, many, sum, data)
		if faults&cut != 0 {
			s = s[:15]
		}
		for _, x := range []struct {
			fault int
			e     api.Errno
		}{{cut, api.ErrShort}, {form, api.ErrForm}, {great, api.ErrBig}, {missing, api.ErrShort}, {hash, api.ErrHash}} {
			if faults&x.fault != 0 {
				want = x.e
				break
			}
		}
		r := api.Rec{}
		if want == api.OK {
			r = api.Rec{Serial: 3, Data: data}
		}
		reads(t, s, r, want)
	}
}

// Each byte, and each two bytes of the numbers that follow one another, are other ones.
func TestRe1BesideAPlainReadingOfBrokenBytes(t *testing.T) {
	s := right(258, sample(40)) + sample(30)
	for at := range len(s) {
		for c := range 256 {
			agrees(t, other(s, at, byte(c)))
		}
	}
	found := map[api.Errno]int{}
	for at := 2; at < 17; at++ {
		for c := range 1 << 16 {
			found[agrees(t, s[:at]+string([]byte{byte(c >> 8), byte(c)})+s[at+2:])]++
		}
	}
	for _, e := range []api.Errno{api.ErrForm, api.ErrBig, api.ErrShort, api.ErrHash, api.OK} {
		if found[e] < 10 {
			t.Errorf("%d times %v", found[e], e)
		}
	}
}

func TestRe1BesideAPlainReadingOfAnyBytes(t *testing.T) {
	r := rand.New(rand.NewPCG(20, 1))
	found := map[api.Errno]int{}
	for range 100000 {
		data := make([]byte, r.IntN(80))
		for k := range data {
			data[k] = byte(r.Uint32())
		}
		many := len(data)
		if r.IntN(4) == 0 {
			many += r.IntN(9) - 4
		}
		if r.IntN(8) == 0 {
			many += 480 - r.IntN(2)<<r.IntN(33)
		}
		serial := int(r.Uint32())
		sum := sumOf(bigs(serial, many) + string(data[:min(len(data), max(0, many))]))
		if r.IntN(8) == 0 {
			sum ^= 1 << r.IntN(32)
		}
		s := put("PENV", serial, many, sum, string(data))
		if r.IntN(16) == 0 {
			s = other(s, r.IntN(len(s)), byte(r.Uint32()))
		}
		if r.IntN(16) == 0 {
			s = s[:r.IntN(len(s))]
		}
		found[agrees(t, s)]++
	}
	for _, e := range []api.Errno{api.ErrForm, api.ErrBig, api.ErrShort, api.ErrHash, api.OK} {
		if found[e] < 500 {
			t.Errorf("%d times %v", found[e], e)
		}
	}
}

func TestRe2Newer(t *testing.T) {
	for _, x := range []struct {
		a, b int
		want bool
	}{
		{0, 0, false},
		{1, 0, true},
		{0, 1, false},
		{2, 1, true},
		{1<<31 - 1, 0, true},
		{0, 1<<31 - 1, false},
		// As far from each other as can be, none is newer.
		{1 << 31, 0, false},
		{0, 1 << 31, false},
		{1<<31 + 5, 5, false},
		{5, 1<<31 + 5, false},
		{1<<31 + 1, 0, false},
		{0, 1<<31 + 1, true},
		{1 << 31, 1, true},
		{1, 1 << 31, false},
		{0, 1<<32 - 1, true},
		{1<<32 - 1, 0, false},
		{1<<32 - 1, 1<<32 - 2, true},
		{1<<31 - 2, 1<<32 - 1, true},
		{1<<31 - 1, 1<<32 - 1, false},
		{1<<32 - 1, 1<<32 - 1, false},
		// Numbers that are no serial numbers are the same modulo 2^32.
		{1 << 32, 0, false},
		{1 << 32, 1<<32 - 1, true},
		{1<<32 + 1, 0, true},
		{-1, 0, false},
		{0, -1, true},
		{-1, -2, true},
		{-1, 1<<32 - 1, false},
		{math.MaxInt, math.MinInt, false},
		{math.MinInt, math.MaxInt, true},
		{math.MinInt, 0, false},
		{math.MinInt + 1, math.MinInt, true},
		{math.MaxInt, math.MaxInt - 1, true},
		{0, math.MaxInt, true},
	} {
		if got := Newer(x.a, x.b); got != x.want {
			t.Errorf("Newer(%d, %d) is %v", x.a, x.b, got)
		}
	}
}

// modulo is a number of any size modulo 2^32.
func modulo(n *big.Int) int {
	return int(new(big.Int).Mod(n, big.NewInt(1<<32)).Int64())
}

// Numbers of any size are subtracted and increased as the chapter says it, without a bound.
func TestRe2BesideAPlainTelling(t *testing.T) {
	l := slices.Concat(serials(), outside())
	for _, n := range slices.Clone(l) {
		for d := -2; d <= 2; d++ {
			l = append(l, n+d, n+d+1<<31, n+d-1<<31)
		}
	}
	r := rand.New(rand.NewPCG(20, 2))
	for range 200 {
		l = append(l, int(r.Uint32()), int(r.Uint64()))
	}
	newer := 0
	for _, a := range l {
		if got, want := Next(a), modulo(new(big.Int).Add(big.NewInt(int64(a)), big.NewInt(1))); got != want {
			t.Errorf("Next(%d) is %d, not %d", a, got, want)
		}
		for _, b := range l {
			d := modulo(new(big.Int).Sub(big.NewInt(int64(a)), big.NewInt(int64(b))))
			want := 1 <= d && d <= 2147483647
			if got := Newer(a, b); got != want {
				t.Fatalf("Newer(%d, %d) is %v", a, b, got)
			}
			if want {
				newer++
			}
		}
	}
	if newer < len(l)*len(l)/4 {
		t.Errorf("only %d of %d", newer, len(l)*len(l))
	}
}

func TestRe2Next(t *testing.T) {
	for n, want := range map[int]int{
		0: 1, 1: 2, 255: 256, 65535: 65536, 1<<31 - 1: 1 << 31, 1 << 31: 1<<31 + 1, 1<<32 - 2: 1<<32 - 1, 1<<32 - 1: 0,
		1 << 32: 1, 1<<33 - 1: 0, 1<<40 + 7: 8, -1: 0, -2: 1<<32 - 1, -1 << 31: 1<<31 + 1, -1 << 32: 1,
		math.MaxInt: 0, math.MaxInt - 1: 1<<32 - 1, math.MinInt: 1, math.MinInt + 1: 2,
	} {
		if got := Next(n); got != want {
			t.Errorf("Next(%d) is %d, not %d", n, got, want)
		}
	}
}

// written is a record by Body.
func written(t *testing.T, r api.Rec) string {
	t.Helper()
	s, e := Body(r)
	if e != api.OK {
		t.Fatalf("Body of %d with %d bytes: %v", r.Serial, len(r.Data), e)
	}
	return Mark + s
}

func TestRe3ReadBack(t *testing.T) {
	all := sample(512)
	behind := []string{"", "\x00", "\xff", "x", "k=v\n", Mark, right(9, "other"), strings.Repeat("\x00", 600), strings.Repeat("\xff", 600), all}
	for n := range 497 {
		for _, data := range []string{all[:n], strings.Repeat("\x00", n), strings.Repeat("\xff", n)} {
			r := api.Rec{Serial: n*0x01234567 + n, Data: data}
			r.Serial &= 1<<32 - 1
			s := written(t, r)
			if len(s) != 16+n || len(s) > api.Sector {
				t.Errorf("a record of %d bytes has %d", n, len(s))
			}
			for _, b := range behind {
				reads(t, s+b, r, api.OK)
			}
		}
	}
	for _, serial := range serials() {
		for _, data := range []string{"", "k=v\n", all[:496]} {
			r := api.Rec{Serial: serial, Data: data}
			for _, b := range behind {
				reads(t, written(t, r)+b, r, api.OK)
			}
		}
	}
}

// What is read, with whatever behind it, is written as it was.
func TestRe3WrittenAgain(t *testing.T) {
	for n := range 497 {
		s := right(n<<23, sample(n))
		r, e := Read(s + "more")
		if again := written(t, r); e != api.OK || again != s {
			t.Errorf("%d bytes: %v, %.40q", n, e, again)
		}
	}
}

// detected fails if any change of one byte of a record, other than those of the number of bytes, is not, or as another error.
func detected(t *testing.T, s, behind string) {
	t.Helper()
	for at := range len(s) {
		want := api.ErrHash
		switch {
		case at < 4:
			want = api.ErrForm
		case at >= 8 && at < 12:
			continue
		}
		for change := 1; change < 256; change++ {
			if r, e := Read(other(s, at, s[at]^byte(change)) + behind); e != want || r != (api.Rec{}) {
				t.Fatalf("byte %d of %d xored with %d: %+v, %v", at, len(s), change, r, e)
			}
		}
	}
}

func TestRe3ChangesAreDetected(t *testing.T) {
	for _, n := range []int{0, 1, 2, 3, 4, 31, 100} {
		for _, serial := range []int{0, 258, 1 << 31, 1<<32 - 1} {
			for _, data := range []string{sample(n), strings.Repeat("\x00", n), strings.Repeat("\xff", n)} {
				detected(t, written(t, api.Rec{Serial: serial, Data: data}), "")
			}
		}
		detected(t, written(t, api.Rec{Serial: 5, Data: sample(n)}), strings.Repeat("\xff", 200))
	}
	detected(t, written(t, api.Rec{Serial: 5, Data: sample(496)}), "")
}

// A change of what follows a record is none of it.
func TestRe3ChangesBehindAreNone(t *testing.T) {
	r := api.Rec{Serial: 258, Data: "k=v\n"}
	s := written(t, r) + sample(50)
	for at := 20; at < len(s); at++ {
		for change := 1; change < 256; change++ {
			reads(t, other(s, at, s[at]^byte(change)), r, api.OK)
		}
	}
}

func TestRe3LaterIsNewer(t *testing.T) {
	distances := []int{1, 2, 3, 255, 256, 1 << 16, 1 << 24, 1<<30 - 1, 1 << 30, 1<<31 - 2, 1<<31 - 1}
	r := rand.New(rand.NewPCG(20, 3))
	for range 500 {
		distances = append(distances, 1+int(r.Uint32N(1<<31-1)))
	}
	starts := serials()
	for range 100 {
		starts = append(starts, int(r.Uint32()))
	}
	for _, n := range starts {
		for _, d := range distances {
			later := (n + d) & (1<<32 - 1)
			if !Newer(later, n) || Newer(n, later) {
				t.Fatalf("%d is %d later than %d: %v, %v", later, d, n, Newer(later, n), Newer(n, later))
			}
		}
	}
}

// Along the numbers, across the greatest one, each is newer than all that it follows.
func TestRe3NextIsNewer(t *testing.T) {
	for _, first := range []int{0, 1<<31 - 50, 1<<32 - 50} {
		n := first
		var before []int
		for range 100 {
			for _, b := range before {
				if !Newer(n, b) || Newer(b, n) {
					t.Errorf("%d follows %d: %v, %v", n, b, Newer(n, b), Newer(b, n))
				}
			}
			if Newer(n, n) || n < 0 || n > 1<<32-1 {
				t.Errorf("%d", n)
			}
			before = append(before, n)
			n = Next(n)
		}
	}
}

// What Next answers is a serial number, whatever it is given, so that Body takes it.
func TestRe3NextIsASerialNumber(t *testing.T) {
	for _, n := range slices.Concat(serials(), outside()) {
		r := api.Rec{Serial: Next(n), Data: "k=v\n"}
		reads(t, written(t, r), r, api.OK)
	}
}

func TestR4AnswersAreAlwaysTheSame(t *testing.T) {
	r := api.Rec{Serial: 258, Data: sample(496)}
	first := written(t, r)
	written(t, api.Rec{Serial: 259, Data: "other"})
	Body(api.Rec{Serial: -1})
	Read(other(first, 20, 0))
	Read("")
	if again := written(t, r); again != first {
		t.Errorf("%.40q, then %.40q", first, again)
	}
	reads(t, first, r, api.OK)
}
