// Package crc is layer 1: a check of bytes. See shared/doc/01-crc.md.
package crc

import "sync"

// turn is what is put to a register, where its lowest bit and the bit that goes in differ.
const turn uint32 = 0xEDB88320

// The document asks for the steps of all bytes, made once. Steps alone reads them: Step and Sum hang on nothing but what they are given.
var (
	once  sync.Once
	steps [256]uint32
)

// fill makes the steps of all bytes.
func fill() {
	for c := range 256 {
		steps[c] = bits(uint32(c))
	}
}

// Steps tells, of each byte, the register 0 when it has gone into it.
func Steps() [256]uint32 {
	once.Do(fill)
	return steps
}

// bits moves a register down by eight bits, into which only noughts go.
func bits(r uint32) uint32 {
	for range 8 {
		low := r & 1
		r >>= 1
		if low == 1 {
			r ^= turn
		}
	}
	return r
}

// Step tells a register into which a byte has gone.
func Step(r uint32, c byte) uint32 {
	return bits(r ^ uint32(c))
}

// Sum tells the check of bytes.
func Sum(b []byte) uint32 {
	r := ^uint32(0)
	for _, c := range b {
		r = Step(r, c)
	}
	return ^r
}
