// Package crc is layer 1: see shared/doc/01-crc.md.
package crc

import (
	"strings"
	"sync"
	"sync/atomic"
)

const (
	polynomial = 0xEDB88320
	sumBytes   = 4
)

// Table: sums of bytes, by a table that is made when it is first asked for.
type Table struct {
	once sync.Once
	made atomic.Int32
	// By half bytes, not by bytes: Frame and Whole make a table at each call, and their texts are short, so that making a long one would cost more than it saves.
	halves [16]uint32
}

// New: one that isn't made yet.
func New() *Table { return &Table{} }

// Sum: the CRC of bytes.
func (t *Table) Sum(s string) uint32 {
	if t == nil {
		return 0
	}
	t.once.Do(t.fill)
	sum := ^uint32(0)
	for i := 0; i < len(s); i++ {
		sum ^= uint32(s[i])
		sum = sum>>4 ^ t.halves[sum&15]
		sum = sum>>4 ^ t.halves[sum&15]
	}
	return ^sum
}

// Made: how often it was made.
func (t *Table) Made() int {
	if t == nil {
		return 0
	}
	return int(t.made.Load())
}

func (t *Table) fill() {
	for i := range t.halves {
		t.halves[i] = divideHalf(uint32(i))
	}
	t.made.Add(1)
}

// divideHalf: what four steps of the division by the polynomial leave.
func divideHalf(rest uint32) uint32 {
	for range 4 {
		low := rest & 1
		rest >>= 1
		if low == 1 {
			rest ^= polynomial
		}
	}
	return rest
}

// Frame: a text with its sum behind it.
func Frame(s string) (string, uint32) {
	sum := New().Sum(s)
	return s + highestFirst(sum), sum
}

func highestFirst(sum uint32) string {
	return string([]byte{byte(sum >> 24), byte(sum >> 16), byte(sum >> 8), byte(sum)})
}

// Whole: the text of one with its sum.
func Whole(s string) (string, bool) {
	if len(s) < sumBytes {
		return "", false
	}
	end := len(s) - sumBytes
	if s[end:] != highestFirst(New().Sum(s[:end])) {
		return "", false
	}
	// A copy, because a piece would share memory with what was handed in.
	return strings.Clone(s[:end]), true
}
