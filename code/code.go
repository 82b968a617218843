// Package code is layer 1: see shared/doc/01-code.md.
package code

import (
	"iter"
	"strings"

	"almanac/api"
)

const (
	groupBits  = 7
	more       = 1 << groupBits // stands in all bytes of a number but the last one
	maxGroups  = 10
	polynomial = 0xedb88320 // that of IEEE 802.3, with the lowest bit first, as the bytes' bits come
)

// Crc is the check sum of bytes.
func Crc(s string) uint32 {
	sum := ^uint32(0)
	for i := range len(s) {
		sum = turn(sum ^ uint32(s[i]))
	}
	return ^sum
}

// turn takes the lowest eight bits of a sum out of it, one after another.
func turn(sum uint32) uint32 {
	for range 8 {
		sum = sum>>1 ^ polynomial&-(sum&1)
	}
	return sum
}

// Number writes a number.
func Number(n uint64) string {
	b := make([]byte, 0, maxGroups)
	for g := range split(n) {
		b = append(b, g)
	}
	return string(b)
}

// split hands out the groups of a number, as the bytes that they are written as.
func split(n uint64) iter.Seq[byte] {
	return func(yield func(byte) bool) {
		rest := n
		for rest >= more {
			if !yield(byte(rest) | more) {
				return
			}
			rest >>= groupBits
		}
		yield(byte(rest))
	}
}

// ReadNumber reads one; where it ends.
func ReadNumber(s string, at int) (uint64, int, api.Errno) {
	if at < 0 || at > len(s) {
		return 0, 0, api.ErrPlace
	}
	n := uint64(0)
	end, e := 0, api.ErrShort
reading:
	for i, b := range groups(s, at) {
		n |= uint64(b&^more) << (groupBits * i)
		switch {
		case i == maxGroups-1 && b > 1, i > 0 && b == 0: // ahead of the end: ten groups that go on are too many already
			e = api.ErrForm
			break reading
		case b < more:
			end, e = at+i+1, api.OK
			break reading
		}
	}
	if e != api.OK {
		return 0, 0, e
	}
	return n, end, api.OK
}

// groups hands out the bytes of s from a place on, each with how many came ahead of it.
func groups(s string, at int) iter.Seq2[int, byte] {
	return func(yield func(int, byte) bool) {
		for i := range len(s) - at {
			if !yield(i, s[at+i]) {
				return
			}
		}
	}
}

// Signed writes a signed number.
func Signed(n int64) string {
	double := uint64(n) << 1
	if n < 0 {
		double = ^double // -2n - 1, without a step beyond 64 bits
	}
	return Number(double)
}

// ReadSigned reads one.
func ReadSigned(s string, at int) (int64, int, api.Errno) {
	double, end, e := ReadNumber(s, at)
	n := int64(double >> 1)
	if double&1 == 1 {
		n = ^n
	}
	return n, end, e
}

// Text writes a text.
func Text(t string) string { return Number(uint64(len(t))) + t }

// ReadText reads one.
func ReadText(s string, at int) (string, int, api.Errno) {
	long, start, e := ReadNumber(s, at)
	if e != api.OK {
		return "", 0, e
	}
	if long > uint64(len(s)-start) {
		return "", 0, api.ErrShort
	}
	end := start + int(long)
	return strings.Clone(s[start:end]), end, api.OK // a clone, so that a short text does not hold a long one in memory
}
