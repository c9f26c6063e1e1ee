// Package num is layer 1: see shared/doc/01-num.md.
package num

import (
	"strconv"
	"strings"
)

// width is how many bytes a 32-bit number has.
const width = 4

// digits holds each hexadecimal digit at the place that is its value.
const digits = "0123456789abcdef"

// highest is the greatest number that Up may raise.
const highest = 1 << 53

// Big are the bytes of a number of 32 bits, the greatest first.
func Big(n int) string {
	return string([]byte{byte(n >> 24), byte(n >> 16), byte(n >> 8), byte(n)})
}

// FromBig is the number that bytes begin with; more bytes may follow, so that a reader need not cut them off first.
func FromBig(s string) (int, bool) {
	if len(s) < width {
		return 0, false
	}
	return int(s[0])<<24 | int(s[1])<<16 | int(s[2])<<8 | int(s[3]), true
}

// Bigs are numbers' bytes, one behind the other.
func Bigs(l ...int) string {
	var b strings.Builder
	for _, n := range l {
		b.WriteString(Big(n))
	}
	return b.String()
}

// FromBigs are the numbers of bytes; those of no bytes are no numbers, which is not a fault.
func FromBigs(s string) ([]int, bool) {
	if len(s)%width != 0 {
		return nil, false
	}
	var l []int
	for at := 0; at < len(s); at += width {
		n, _ := FromBig(s[at:])
		l = append(l, n)
	}
	return l, true
}

// Hex are the digits of bytes.
func Hex(s string) string {
	var b strings.Builder
	for i := range len(s) {
		b.WriteByte(digits[s[i]>>4])
		b.WriteByte(digits[s[i]&15])
	}
	return b.String()
}

// FromHex are the bytes of digits; capitals are refused, as Hex never writes them.
func FromHex(s string) (string, bool) {
	if len(s)%2 != 0 {
		return "", false
	}
	var b strings.Builder
	for at := 0; at < len(s); at += 2 {
		upper := strings.IndexByte(digits, s[at])
		lower := strings.IndexByte(digits, s[at+1])
		if upper < 0 || lower < 0 {
			return "", false
		}
		b.WriteByte(byte(upper<<4 | lower))
	}
	return b.String(), true
}

// Dec are decimal digits.
func Dec(n int) string {
	return strconv.Itoa(n)
}

// FromDec is the number of decimal digits. The library reads more forms than Dec writes (a plus, leading zeros, a negative zero), so what it read is written again and compared.
func FromDec(s string) (int, bool) {
	n, err := strconv.Atoi(s)
	if err != nil || Dec(n) != s {
		return 0, false
	}
	return n, true
}

// Up is a number, as it is or raised, that can be divided by four. Numbers that are no sizes stay as they are, so that raising never wraps round.
func Up(n int) int {
	if n < 0 || n > highest {
		return n
	}
	return (n + 3) / 4 * 4
}
