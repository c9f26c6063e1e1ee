package token

import (
	"bytes"
	"fmt"
	"math"
	"slices"
	"strings"
	"testing"

	"postilion/api"
)

// The tokens without names, as bytes.
const (
	end  = "\x00\x00\x00\x02"
	nop  = "\x00\x00\x00\x04"
	stop = "\x00\x00\x00\x09"
)

// big are the four bytes of a number.
func big(n int) string {
	return string([]byte{byte(n >> 24), byte(n >> 16), byte(n >> 8), byte(n)})
}

// full are bytes, with bytes 0 behind them until they can be divided by four.
func full(s string) string {
	for len(s)%4 != 0 {
		s += "\x00"
	}
	return s
}

// begin is a TokBegin as bytes.
func begin(name string) string { return "\x00\x00\x00\x01" + full(name+"\x00") }

// prop is a TokProp as bytes.
func prop(place int, value string) string {
	return "\x00\x00\x00\x03" + big(len(value)) + big(place) + full(value)
}

// fits tells whether a node may have a name.
func fits(name string) bool { return len(name) <= 31 && !strings.Contains(name, "\x00") }

// slowRead reads tokens as the chapter says it, byte by byte.
func slowRead(structure, texts string) ([]api.Token, api.Errno) {
	rest := []byte(structure)
	number := func() (int, bool) {
		if len(rest) < 4 {
			return 0, false
		}
		n := 0
		for _, c := range rest[:4] {
			n = n*256 + int(c)
		}
		rest = rest[4:]
		return n, true
	}
	var l []api.Token
	for count := 1; ; count++ {
		if count == 1025 {
			return nil, api.ErrBig
		}
		kind, ok := number()
		if !ok {
			return nil, api.ErrShort
		}
		t, right := api.Token{Kind: kind}, true
		switch kind {
		case 1:
			i := bytes.IndexByte(rest, 0)
			if i < 0 {
				return nil, api.ErrShort
			}
			t.Name = string(rest[:i])
			size := i + 1
			for size%4 != 0 {
				size++
			}
			if size > len(rest) {
				return nil, api.ErrShort
			}
			right = fits(t.Name) && len(bytes.Trim(rest[i:size], "\x00")) == 0
			rest = rest[size:]
		case 2, 4:
		case 3:
			n, ok := number()
			if !ok {
				return nil, api.ErrShort
			}
			place, ok := number()
			if !ok {
				return nil, api.ErrShort
			}
			size := n
			for size%4 != 0 {
				size++
			}
			if size > len(rest) {
				return nil, api.ErrShort
			}
			t.Value = string(rest[:n])
			right = len(bytes.Trim(rest[n:size], "\x00")) == 0
			rest = rest[size:]
			name, found := "", false
			for i := place; i < len(texts) && !found; i++ {
				if found = texts[i] == 0; !found {
					name += texts[i : i+1]
				}
			}
			t.Name = name
			right = right && found && name != "" && fits(name)
		case 9:
			if len(rest) > 0 {
				return nil, api.ErrForm
			}
			return l, api.OK
		default:
			right = false
		}
		if !right {
			return nil, api.ErrForm
		}
		l = append(l, t)
	}
}

// reads fails if Read does not answer what slowRead does.
func reads(t *testing.T, structure, texts string) ([]api.Token, api.Errno) {
	t.Helper()
	want, wantErr := slowRead(structure, texts)
	got, e := Read(structure, texts)
	if e != wantErr || !slices.Equal(got, want) {
		t.Fatalf("Read(%q, %q) is %#v, %v, not %#v, %v", structure, texts, got, e, want, wantErr)
	}
	return got, e
}

// refuses fails if Read does not answer an error, and nothing else.
func refuses(t *testing.T, structure, texts string, want api.Errno) {
	t.Helper()
	if l, e := Read(structure, texts); len(l) != 0 || e != want {
		t.Errorf("Read(%.200q, %.200q) is %d tokens, %v, not %v", structure, texts, len(l), e, want)
	}
	if _, e := slowRead(structure, texts); e != want {
		t.Errorf("the plain reading of %.200q, %.200q is %v, not %v", structure, texts, e, want)
	}
}

// sequence is a source of numbers that is the same in each run.
type sequence uint32

// below is the next number, from 0 to n - 1.
func (x *sequence) below(n int) int {
	*x = *x*1664525 + 1013904223
	return int(*x>>8) % n
}

// text are bytes other than 0, few of them different.
func (x *sequence) text(n int) string {
	var b strings.Builder
	for range n {
		b.WriteByte("abc@\xff\x01"[x.below(6)])
	}
	return b.String()
}

// value are any bytes.
func (x *sequence) value(n int) string {
	var b strings.Builder
	for range n {
		b.WriteByte(byte(x.below(256)))
	}
	return b.String()
}

// tokens are tokens that Put takes, in any order; some have fields that their kind does not have.
func (x *sequence) tokens(n int) []api.Token {
	var l []api.Token
	for range n {
		t := api.Token{Kind: 1 + x.below(4), Name: x.text(x.below(32)), Value: x.value(x.below(12))}
		if t.Kind == api.TokProp && t.Name == "" {
			t.Name = "reg"
		}
		if x.below(4) == 0 && (t.Kind == api.TokEnd || t.Kind == api.TokNop) {
			t.Name = x.value(x.below(50))
		}
		l = append(l, t)
	}
	return l
}

// bare are tokens without the fields that their kinds do not have.
func bare(l []api.Token) []api.Token {
	l = slices.Clone(l)
	for k, t := range l {
		switch t.Kind {
		case api.TokBegin:
			l[k].Value = ""
		case api.TokEnd, api.TokNop:
			l[k].Name, l[k].Value = "", ""
		}
	}
	return l
}

func TestExample(t *testing.T) {
	for _, texts := range []string{"", "a", "a\x00"} {
		if l, e := Read("\x00\x00\x00\x09", texts); len(l) != 0 || e != api.OK {
			t.Errorf("texts %q: %v, %v", texts, l, e)
		}
	}
	if s, texts, e := Put(nil); s != "\x00\x00\x00\x09" || texts != "" || e != api.OK {
		t.Errorf("%q, %q, %v", s, texts, e)
	}
}

func TestTk1Tokens(t *testing.T) {
	texts := "reg\x00on\x00"
	for k, x := range []struct {
		s    string
		want []api.Token
	}{
		{stop, nil},
		{nop + stop, []api.Token{{Kind: 4}}},
		{end + stop, []api.Token{{Kind: 2}}},
		{"\x00\x00\x00\x01\x00\x00\x00\x00" + stop, []api.Token{{Kind: 1}}},
		{"\x00\x00\x00\x01a\x00\x00\x00" + stop, []api.Token{{Kind: 1, Name: "a"}}},
		{"\x00\x00\x00\x01abc\x00" + stop, []api.Token{{Kind: 1, Name: "abc"}}},
		{"\x00\x00\x00\x01abcd\x00\x00\x00\x00" + stop, []api.Token{{Kind: 1, Name: "abcd"}}},
		{"\x00\x00\x00\x03\x00\x00\x00\x00\x00\x00\x00\x00" + stop, []api.Token{{Kind: 3, Name: "reg"}}},
		{"\x00\x00\x00\x03\x00\x00\x00\x01\x00\x00\x00\x00\x00\x00\x00\x00" + stop, []api.Token{{Kind: 3, Name: "reg", Value: "\x00"}}},
		{"\x00\x00\x00\x03\x00\x00\x00\x03\x00\x00\x00\x04xyz\x00" + stop, []api.Token{{Kind: 3, Name: "on", Value: "xyz"}}},
		{"\x00\x00\x00\x03\x00\x00\x00\x04\x00\x00\x00\x04wxyz" + stop, []api.Token{{Kind: 3, Name: "on", Value: "wxyz"}}},
		{"\x00\x00\x00\x03\x00\x00\x00\x05\x00\x00\x00\x04vwxyz\x00\x00\x00" + stop, []api.Token{{Kind: 3, Name: "on", Value: "vwxyz"}}},
		// What a value has may look like tokens.
		{prop(0, stop+end) + end + stop, []api.Token{{Kind: 3, Name: "reg", Value: stop + end}, {Kind: 2}}},
		{
			begin("") + prop(0, "12345") + nop + begin("cpu@0") + prop(4, "") + end + end + stop,
			[]api.Token{{Kind: 1}, {Kind: 3, Name: "reg", Value: "12345"}, {Kind: 4}, {Kind: 1, Name: "cpu@0"}, {Kind: 3, Name: "on"}, {Kind: 2}, {Kind: 2}},
		},
		// They need not be those of a tree.
		{end + end + prop(4, "x") + begin("a") + stop, []api.Token{{Kind: 2}, {Kind: 2}, {Kind: 3, Name: "on", Value: "x"}, {Kind: 1, Name: "a"}}},
	} {
		if l, e := Read(x.s, texts); !slices.Equal(l, x.want) || e != api.OK {
			t.Errorf("case %d: %v, %v", k, l, e)
		}
		reads(t, x.s, texts)
	}
}

// Of all structures that are cut off, something is missing.
func TestTk1Short(t *testing.T) {
	for n := range 10 {
		name, value := strings.Repeat("n", n), strings.Repeat("v", n)
		s := nop + begin(name) + prop(0, value) + end + prop(1, "") + stop
		for k := range len(s) {
			refuses(t, s[:k], "ab\x00", api.ErrShort)
		}
		if l, e := reads(t, s, "ab\x00"); len(l) != 5 || e != api.OK {
			t.Errorf("%d bytes: %v, %v", n, l, e)
		}
	}
}

func TestTk1NodeNames(t *testing.T) {
	for n := range 80 {
		name := strings.Repeat("n", n)
		l, e := Read(begin(name)+stop, "")
		if n <= 31 && (e != api.OK || !slices.Equal(l, []api.Token{{Kind: 1, Name: name}})) || n > 31 && (e != api.ErrForm || len(l) != 0) {
			t.Errorf("%d bytes: %v, %v", n, l, e)
		}
		// Missing bytes are told of first, however long the name is.
		s := begin(name)
		for k := range len(s) {
			refuses(t, s[:k], "", api.ErrShort)
		}
		refuses(t, "\x00\x00\x00\x01"+name, "", api.ErrShort)
	}
	for c := 1; c < 256; c++ {
		name := "a" + string([]byte{byte(c)}) + "b"
		if l, e := Read(begin(name)+stop, ""); e != api.OK || !slices.Equal(l, []api.Token{{Kind: 1, Name: name}}) {
			t.Errorf("%q: %v, %v", name, l, e)
		}
	}
}

func TestTk1PropNames(t *testing.T) {
	for n := range 80 {
		name := strings.Repeat("p", n)
		l, e := Read(prop(0, "v")+stop, name+"\x00")
		if right := n >= 1 && n <= 31; right && (e != api.OK || !slices.Equal(l, []api.Token{{Kind: 3, Name: name, Value: "v"}})) || !right && (e != api.ErrForm || len(l) != 0) {
			t.Errorf("%d bytes: %v, %v", n, l, e)
		}
		refuses(t, prop(0, "v")+stop, name, api.ErrForm) // no byte 0 ends it
	}
	for c := 1; c < 256; c++ {
		name := "a" + string([]byte{byte(c)}) + "b"
		if l, e := Read(prop(2, "")+stop, "x\x00"+name+"\x00"); e != api.OK || !slices.Equal(l, []api.Token{{Kind: 3, Name: name}}) {
			t.Errorf("%q: %v, %v", name, l, e)
		}
	}
}

// A name may begin within another one, but only within the texts.
func TestTk1PropPlaces(t *testing.T) {
	texts := "reg\x00\x00status\x00open"
	want := []string{"reg", "eg", "g", "", "", "status", "tatus", "atus", "tus", "us", "s"}
	for place := range 30 {
		s := prop(place, "12") + stop
		if place >= len(want) || want[place] == "" {
			refuses(t, s, texts, api.ErrForm)
			continue
		}
		if l, e := Read(s, texts); e != api.OK || !slices.Equal(l, []api.Token{{Kind: 3, Name: want[place], Value: "12"}}) {
			t.Errorf("place %d: %v, %v", place, l, e)
		}
	}
	for _, place := range []int{0xff, 0x100, 0xffff, 1 << 16, 1<<24 + 5, math.MaxInt32, 1 << 31, 1<<32 - 1} {
		refuses(t, prop(place, "")+stop, texts, api.ErrForm)
	}
	refuses(t, prop(0, "")+stop, "", api.ErrForm)
}

// All bytes that must be 0, as all other bytes.
func TestTk1BytesThatMustBeZero(t *testing.T) {
	for n := range 9 {
		name, value := begin(strings.Repeat("n", n)), prop(0, strings.Repeat("v", n))
		for c := 1; c < 256; c++ {
			for at := 4 + n + 1; at < len(name); at++ {
				s := name[:at] + string([]byte{byte(c)}) + name[at+1:]
				refuses(t, s+stop, "", api.ErrForm)
			}
			for at := 12 + n; at < len(value); at++ {
				s := value[:at] + string([]byte{byte(c)}) + value[at+1:]
				refuses(t, s+stop, "a\x00", api.ErrForm)
			}
		}
	}
}

func TestTk1Kinds(t *testing.T) {
	kinds := []int{1 << 8, 2 << 8, 9 << 8, 1 << 16, 1 << 24, 2 << 24, 9 << 24, 1<<24 + 2, 1 << 31, 1<<31 + 9, 1<<32 - 1}
	for kind := range 300 {
		kinds = append(kinds, kind)
	}
	for _, kind := range kinds {
		switch kind {
		case 1, 2, 3, 4, 9:
		default:
			for _, behind := range []string{"", "\x00", stop, "a\x00\x00\x00" + stop} {
				refuses(t, big(kind)+behind, "a\x00", api.ErrForm)
				refuses(t, nop+big(kind)+behind, "a\x00", api.ErrForm)
			}
		}
	}
}

func TestTk1BytesBehindStop(t *testing.T) {
	for _, behind := range []string{"\x00", "\x00\x00\x00", "x", stop, nop, end, begin("a"), big(5), strings.Repeat(nop, 2000)} {
		refuses(t, stop+behind, "a\x00", api.ErrForm)
		refuses(t, begin("")+prop(0, "x")+end+stop+behind, "a\x00", api.ErrForm)
	}
}

func TestTk1SizesOfValues(t *testing.T) {
	for _, size := range []int{5, 6, 7, 8, 9, 0xff, 0x100, 1 << 16, 1 << 24, math.MaxInt32 - 2, math.MaxInt32, 1 << 31, 1<<32 - 4, 1<<32 - 3, 1<<32 - 1} {
		refuses(t, "\x00\x00\x00\x03"+big(size)+big(0)+"abcd", "a\x00", api.ErrShort)
		refuses(t, "\x00\x00\x00\x03"+big(size)+big(99)+"abcd", "a\x00", api.ErrShort)
		refuses(t, "\x00\x00\x00\x03"+big(size)+big(0), "a\x00", api.ErrShort)
	}
	value := strings.Repeat("0123456", 1<<17)
	if l, e := Read(prop(0, value)+stop, "a\x00"); e != api.OK || !slices.Equal(l, []api.Token{{Kind: 3, Name: "a", Value: value}}) {
		t.Errorf("%d tokens, %v", len(l), e)
	}
}

// TokStop is one of the 1024 tokens.
func TestTk1Many(t *testing.T) {
	for _, s := range []string{nop, end, begin("n"), prop(0, "v")} {
		all := strings.Repeat(s, 1023)
		if l, e := Read(all+stop, "a\x00"); len(l) != 1023 || e != api.OK {
			t.Errorf("%q: %d tokens, %v", s, len(l), e)
		}
		refuses(t, all, "a\x00", api.ErrShort)
		refuses(t, all+stop+stop, "a\x00", api.ErrForm)
		refuses(t, all+big(5), "a\x00", api.ErrForm)
		all += s
		for _, behind := range []string{"", "\x00", stop, stop + stop, nop, big(5), begin("n"), strings.Repeat(s, 100)} {
			refuses(t, all+behind, "a\x00", api.ErrBig)
		}
	}
}

func TestTk1OrderOfErrors(t *testing.T) {
	long := strings.Repeat("n", 32)
	for k, x := range []struct {
		s, texts string
		e        api.Errno
	}{
		// Of what belongs to a name, one byte is wrong and one missing; then the name is too long, too.
		{"\x00\x00\x00\x01a\x00x", "", api.ErrShort},
		{"\x00\x00\x00\x01" + long + "\x00xy", "", api.ErrShort},
		{"\x00\x00\x00\x01" + long + "\x00xyz", "", api.ErrForm},
		// A property has no name in the texts, and besides a number is missing, the value, or bytes 0 after it.
		{"\x00\x00\x00\x03\x00\x00\x00\x01", "", api.ErrShort},
		{"\x00\x00\x00\x03\x00\x00\x00\x01\x00\x00\x00", "", api.ErrShort},
		{"\x00\x00\x00\x03\x00\x00\x00\x01\x00\x00\x00\x00", "", api.ErrShort},
		{"\x00\x00\x00\x03\x00\x00\x00\x01\x00\x00\x00\x00v", "", api.ErrShort},
		{"\x00\x00\x00\x03\x00\x00\x00\x01\x00\x00\x00\x00vx", "", api.ErrShort},
		{"\x00\x00\x00\x03\x00\x00\x00\x01\x00\x00\x00\x00vxyz", "", api.ErrForm},
		{"\x00\x00\x00\x03\x00\x00\x00\x01\x00\x00\x00\x00v\x00\x00\x00", "", api.ErrForm},
		// What is wrong with a token is told ahead of what is missing behind it.
		{"\x00\x00\x00\x03\x00\x00\x00\x00\x00\x00\x00\x00", "", api.ErrForm},
		{begin(long), "", api.ErrForm},
		{"\x00\x00\x00\x05\x00\x00", "", api.ErrForm},
		{nop + "\x00\x00\x00", "", api.ErrShort},
		{big(5) + strings.Repeat(nop, 2000), "", api.ErrForm},
		{strings.Repeat(nop, 1023) + big(5) + stop, "", api.ErrForm},
		{strings.Repeat(nop, 1023) + prop(0, ""), "", api.ErrForm},
		{strings.Repeat(nop, 1023) + "\x00\x00\x00\x01n", "", api.ErrShort},
		{strings.Repeat(nop, 1024) + big(5), "", api.ErrBig},
		{stop + strings.Repeat(nop, 2000), "", api.ErrForm},
	} {
		t.Run(fmt.Sprint("case ", k), func(t *testing.T) { refuses(t, x.s, x.texts, x.e) })
	}
}

// All structures of up to five pieces, whole ones and broken ones, beside the plain reading.
func TestTk1AllShortStructures(t *testing.T) {
	pieces := []string{begin(""), begin("abc"), end, nop, stop, prop(0, "x"), prop(1, ""), prop(3, "wxyz"), big(5), "\x00", "a", "\x00\x00\x00\x03", "\x00\x00\x00\x01"}
	level := []string{""}
	for range 5 {
		var longer []string
		for _, s := range level {
			for _, piece := range pieces {
				reads(t, s+piece, "ab\x00\x00")
				longer = append(longer, s+piece)
			}
		}
		level = longer
	}
}

// Right structures of which some bytes are different, missing or more, beside the plain reading.
func TestTk1BrokenStructures(t *testing.T) {
	found := map[api.Errno]int{}
	for seed := range 3000 {
		x := sequence(seed)
		s, texts, e := Put(x.tokens(x.below(12)))
		if e != api.OK {
			t.Fatalf("run %d: %v", seed, e)
		}
		for range 20 {
			broken, less := []byte(s), []byte(texts)
			for range 1 + x.below(3) {
				broken[x.below(len(broken))] = byte(x.below(10))
			}
			if at := x.below(len(broken) + 1); x.below(3) == 0 {
				broken = slices.Delete(broken, at, min(len(broken), at+1+x.below(4)))
			}
			if at := x.below(len(broken) + 1); x.below(3) == 0 {
				broken = slices.Insert(broken, at, []byte(x.value(x.below(5)))...)
			}
			if x.below(3) == 0 {
				less = less[:x.below(len(less)+1)]
			}
			_, e := reads(t, string(broken), string(less))
			found[e]++
		}
	}
	for _, e := range []api.Errno{api.OK, api.ErrShort, api.ErrForm} {
		if found[e] < 100 {
			t.Errorf("%v was answered %d times", e, found[e])
		}
	}
}

func TestTk2Put(t *testing.T) {
	long := strings.Repeat("y", 31)
	for k, x := range []struct {
		l        []api.Token
		s, texts string
	}{
		{[]api.Token{}, stop, ""},
		{[]api.Token{{Kind: 4}}, nop + stop, ""},
		{[]api.Token{{Kind: 2}, {Kind: 2}}, end + end + stop, ""},
		{[]api.Token{{Kind: 1}}, "\x00\x00\x00\x01\x00\x00\x00\x00" + stop, ""},
		{[]api.Token{{Kind: 1, Name: "ab"}}, "\x00\x00\x00\x01ab\x00\x00" + stop, ""},
		{[]api.Token{{Kind: 1, Name: "abc"}}, "\x00\x00\x00\x01abc\x00" + stop, ""},
		{[]api.Token{{Kind: 1, Name: "abcd"}}, "\x00\x00\x00\x01abcd\x00\x00\x00\x00" + stop, ""},
		{[]api.Token{{Kind: 1, Name: long}}, "\x00\x00\x00\x01" + long + "\x00" + stop, ""},
		{[]api.Token{{Kind: 3, Name: "a"}}, "\x00\x00\x00\x03\x00\x00\x00\x00\x00\x00\x00\x00" + stop, "a\x00"},
		{[]api.Token{{Kind: 3, Name: "a", Value: "v"}}, "\x00\x00\x00\x03\x00\x00\x00\x01\x00\x00\x00\x00v\x00\x00\x00" + stop, "a\x00"},
		{[]api.Token{{Kind: 3, Name: "a", Value: "\x00\x00\x00\x00"}}, "\x00\x00\x00\x03\x00\x00\x00\x04\x00\x00\x00\x00\x00\x00\x00\x00" + stop, "a\x00"},
		{
			[]api.Token{{Kind: 3, Name: long}, {Kind: 3, Name: "b", Value: "12345"}, {Kind: 3, Name: long, Value: "x"}, {Kind: 3, Name: "b"}},
			prop(0, "") + prop(32, "12345") + prop(0, "x") + prop(32, "") + stop, long + "\x00b\x00",
		},
		// The end of another name is a name of its own.
		{[]api.Token{{Kind: 3, Name: "reg"}, {Kind: 3, Name: "eg"}, {Kind: 3, Name: "reg"}}, prop(0, "") + prop(4, "") + prop(0, "") + stop, "reg\x00eg\x00"},
		// The names of nodes are not among the strings.
		{[]api.Token{{Kind: 1, Name: "n"}, {Kind: 3, Name: "p"}, {Kind: 2}}, begin("n") + prop(0, "") + end + stop, "p\x00"},
	} {
		if s, texts, e := Put(x.l); s != x.s || texts != x.texts || e != api.OK {
			t.Errorf("case %d: %q, %q, %v", k, s, texts, e)
		}
	}
}

func TestTk2Kinds(t *testing.T) {
	kinds := []int{math.MinInt, math.MinInt32, -1, api.MaxInt, 1 << 32, 1<<32 + 1, 1<<32 + 2, 1<<32 + 3, 1<<32 + 4, 1<<32 + 9, -1<<32 + 1}
	for kind := range 300 {
		kinds = append(kinds, kind)
	}
	for _, kind := range kinds {
		want := api.ErrArg
		if kind >= 1 && kind <= 4 {
			want = api.OK
		}
		for _, l := range [][]api.Token{{{Kind: kind, Name: "a"}}, {{Kind: 3, Name: "p", Value: "v"}, {Kind: kind, Name: "a"}, {Kind: 2}}} {
			if s, texts, e := Put(l); e != want || (s == "" && texts == "") != (want != api.OK) {
				t.Errorf("%v: %q, %q, %v", l, s, texts, e)
			}
		}
	}
}

func TestTk2Names(t *testing.T) {
	names := []string{"\x00", "\x00a", "a\x00", "a\x00b", strings.Repeat("y", 30) + "\x00", strings.Repeat("ä", 16), strings.Repeat("y", 1<<16)}
	for n := range 70 {
		names = append(names, strings.Repeat("y", n))
	}
	for c := range 256 {
		names = append(names, string([]byte{byte(c)}), "x"+string([]byte{byte(c)})+"y")
	}
	for _, name := range names {
		for _, kind := range []int{1, 3} {
			right := fits(name) && (name != "" || kind == 1)
			s, texts, e := Put([]api.Token{{Kind: 3, Name: "p"}, {Kind: kind, Name: name, Value: "v"}, {Kind: 2}})
			switch {
			case right && kind == 1 && (e != api.OK || s != prop(0, "")+begin(name)+end+stop || texts != "p\x00"),
				right && kind == 3 && name != "p" && (e != api.OK || s != prop(0, "")+prop(2, "v")+end+stop || texts != "p\x00"+name+"\x00"),
				right && kind == 3 && name == "p" && (e != api.OK || s != prop(0, "")+prop(0, "v")+end+stop || texts != "p\x00"),
				!right && (e != api.ErrArg || s != "" || texts != ""):
				t.Errorf("kind %d, %q: %q, %q, %v", kind, name, s, texts, e)
			}
		}
	}
}

// Too many tokens are told of ahead of wrong ones.
func TestTk2Many(t *testing.T) {
	for _, x := range []api.Token{{Kind: 4}, {Kind: 2}, {Kind: 1, Name: "n"}, {Kind: 3, Name: "p", Value: "v"}} {
		l := slices.Repeat([]api.Token{x}, 1024)
		for _, n := range []int{1022, 1023} {
			s, texts, e := Put(l[:n])
			if m, again := Read(s, texts); e != api.OK || again != api.OK || !slices.Equal(m, l[:n]) {
				t.Errorf("%d of %v: %v, %v", n, x, e, again)
			}
		}
		if s, texts, e := Put(l); s != "" || texts != "" || e != api.ErrBig {
			t.Errorf("1024 of %v: %q, %q, %v", x, s, texts, e)
		}
	}
	for _, n := range []int{1023, 1024, 1025, 5000} {
		want := api.ErrBig
		if n < 1024 {
			want = api.ErrArg
		}
		for _, bad := range []api.Token{{}, {Kind: 9}, {Kind: 3}, {Kind: 1, Name: "\x00"}} {
			for _, at := range []int{0, 500, n - 1} {
				l := slices.Repeat([]api.Token{{Kind: 4}}, n)
				l[at] = bad
				if s, texts, e := Put(l); s != "" || texts != "" || e != want {
					t.Errorf("%d, at %d %v: %q, %q, %v", n, at, bad, s, texts, e)
				}
			}
		}
	}
}

// What a kind does not have may be anything.
func TestTk2FieldsThatAKindDoesNotHave(t *testing.T) {
	for _, other := range []string{"x", "\x00", strings.Repeat("y", 40), strings.Repeat("\x00", 4)} {
		l := []api.Token{{Kind: 1, Name: "n", Value: other}, {Kind: 4, Name: other, Value: other}, {Kind: 2, Name: other, Value: other}}
		if s, texts, e := Put(l); s != begin("n")+nop+end+stop || texts != "" || e != api.OK {
			t.Errorf("%q: %q, %q, %v", other, s, texts, e)
		}
	}
}

func TestTk2Plain(t *testing.T) {
	n, p, e, x := api.Token{Kind: 1, Name: "n"}, api.Token{Kind: 3, Name: "p", Value: "v"}, api.Token{Kind: 2}, api.Token{Kind: 4}
	for k, c := range []struct{ l, want []api.Token }{
		{nil, nil},
		{[]api.Token{}, nil},
		{[]api.Token{x}, nil},
		{[]api.Token{x, x, x}, nil},
		{[]api.Token{n, p, e}, []api.Token{n, p, e}},
		{[]api.Token{x, n, x, x, p, e, x}, []api.Token{n, p, e}},
		{[]api.Token{p, p, x, p}, []api.Token{p, p, p}},
		{[]api.Token{{Kind: 4, Name: "a", Value: "b"}, e}, []api.Token{e}},
		{[]api.Token{{}, {Kind: 9}, {Kind: -4}, {Kind: 1<<32 + 4}}, []api.Token{{}, {Kind: 9}, {Kind: -4}, {Kind: 1<<32 + 4}}},
		{slices.Repeat([]api.Token{x, e}, 5000), slices.Repeat([]api.Token{e}, 5000)},
	} {
		if got := Plain(c.l); !slices.Equal(got, c.want) {
			t.Errorf("case %d: %v", k, got)
		}
	}
}

// Neither a list nor the memory behind its end is changed; what is answered is new memory.
func TestTk2ListsStay(t *testing.T) {
	whole := []api.Token{{Kind: 1, Name: "n"}, {Kind: 4}, {Kind: 3, Name: "p"}, {Kind: 4, Name: "x"}, {Kind: 2}, {Kind: 4}, {Kind: 2, Name: "y"}}
	before := slices.Clone(whole)
	for n := range len(whole) + 1 {
		plain := Plain(whole[:n])
		Put(whole[:n])
		if !slices.Equal(whole, before) {
			t.Fatalf("of %d: %v", n, whole)
		}
		for k := range plain {
			plain[k] = api.Token{Kind: 7}
		}
		_ = append(plain, api.Token{Kind: 8})
		if !slices.Equal(whole, before) {
			t.Fatalf("of %d, the answer is the list: %v", n, whole)
		}
	}
	s, texts, _ := Put(whole)
	first, _ := Read(s, texts)
	clear(first)
	if second, e := Read(s, texts); e != api.OK || !slices.Equal(second, bare(whole)) {
		t.Errorf("the second time: %v, %v", second, e)
	}
}

func TestTk3WrittenIsReadBack(t *testing.T) {
	for seed := range 3000 {
		x := sequence(seed)
		l := x.tokens(x.below(60))
		s, texts, e := Put(l)
		if e != api.OK {
			t.Fatalf("run %d: %v", seed, e)
		}
		if m, e := Read(s, texts); e != api.OK || !slices.Equal(m, bare(l)) {
			t.Fatalf("run %d: %#v, %v, not %#v", seed, m, e, bare(l))
		}
		if len(s)%4 != 0 {
			t.Fatalf("run %d: %d bytes", seed, len(s))
		}
	}
}

// All lists of up to four of some tokens.
func TestTk3AllShortLists(t *testing.T) {
	some := []api.Token{{Kind: 1}, {Kind: 1, Name: "ab"}, {Kind: 1, Name: "abc"}, {Kind: 2}, {Kind: 4}, {Kind: 3, Name: "a"}, {Kind: 3, Name: "ba", Value: "v"}, {Kind: 3, Name: "a", Value: "\x00\x00\x00\x09"}}
	var all func(l []api.Token)
	all = func(l []api.Token) {
		s, texts, e := Put(l)
		if m, again := Read(s, texts); e != api.OK || again != api.OK || !slices.Equal(m, l) {
			t.Fatalf("%v: %v, then %v, %v", l, e, m, again)
		}
		reads(t, s, texts)
		if len(l) < 4 {
			for _, x := range some {
				all(append(slices.Clone(l), x))
			}
		}
	}
	all(nil)
}

// Structures that Put did not write: the names of their properties begin anywhere in the texts.
func TestTk3ReadIsReadBack(t *testing.T) {
	accepted := 0
	for seed := range 3000 {
		x := sequence(seed)
		texts := ""
		for range 1 + x.below(5) {
			texts += x.text(x.below(40)) + "\x00"
		}
		s := ""
		for range x.below(8) {
			s += []string{begin(x.text(x.below(32))), prop(x.below(len(texts)), x.value(x.below(9))), end, nop}[x.below(4)]
		}
		l, e := reads(t, s+stop, texts)
		if e != api.OK {
			continue
		}
		accepted++
		again, names, e := Put(l)
		if e != api.OK {
			t.Fatalf("run %d: %#v: %v", seed, l, e)
		}
		if m, e := Read(again, names); e != api.OK || !slices.Equal(m, l) {
			t.Fatalf("run %d: %#v, %v, not %#v", seed, m, e, l)
		}
	}
	if accepted < 1000 {
		t.Errorf("only %d structures were right", accepted)
	}
}

// So many names that are long that a reader which went through all of the texts each time would not end soon.
func TestTk3BigTexts(t *testing.T) {
	var l []api.Token
	for k := range 1023 {
		l = append(l, api.Token{Kind: 3, Name: fmt.Sprintf("property-%022d", k), Value: strings.Repeat("v", 2000+k)})
	}
	s, texts, e := Put(l)
	if m, again := Read(s, texts); e != api.OK || again != api.OK || !slices.Equal(m, l) {
		t.Errorf("%v, %v", e, again)
	}
	if m, e := Read(s, texts+strings.Repeat("z", 1<<26)); e != api.OK || !slices.Equal(m, l) {
		t.Errorf("with more texts: %v", e)
	}
}
