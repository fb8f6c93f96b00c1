package trap

import (
	"math"
	"testing"

	"switchyard/api"
)

// The chapter's examples.
func TestExamples(t *testing.T) {
	b := batchOf(t, up(20, 5), down(0, 9))
	checkNext(t, b, 20, 5, true)
	checkNext(t, b, 0, 5, true)
	checkNext(t, b, 1, 0, false)
	if to := Old(api.Site{At: 20, To: 5}, true); to != 25 {
		t.Error(to)
	}
}

// led is a place or a target, and what is told of it, written out.
type led struct {
	n      int
	target uint32 // of a To
	behind uint32 // of an At
}

// numbers is ordinary ones, such as lie at an end of memory, of 32 bits or of an int, and such as have more than 32 bits.
func numbers() []led {
	return []led{
		{0, 0, 5}, {1, 1, 6}, {4, 4, 9}, {5, 5, 10}, {20, 20, 25}, {251, 251, 256}, {4096, 4096, 4101},
		{65530, 65530, 65535}, {65531, 65531, 65536}, {65532, 65532, 65537}, {65536, 65536, 65541}, {65537, 65537, 65542},
		{-1, 0xFFFFFFFF, 4}, {-4, 0xFFFFFFFC, 1}, {-5, 0xFFFFFFFB, 0}, {-6, 0xFFFFFFFA, 0xFFFFFFFF}, {-65536, 0xFFFF0000, 0xFFFF0005},
		{1<<31 - 6, 0x7FFFFFFA, 0x7FFFFFFF}, {1<<31 - 5, 0x7FFFFFFB, 0x80000000}, {1<<31 - 1, 0x7FFFFFFF, 0x80000004}, {1 << 31, 0x80000000, 0x80000005},
		{-(1 << 31), 0x80000000, 0x80000005}, {-(1 << 31) - 1, 0x7FFFFFFF, 0x80000004},
		{1<<32 - 6, 0xFFFFFFFA, 0xFFFFFFFF}, {1<<32 - 5, 0xFFFFFFFB, 0}, {1<<32 - 4, 0xFFFFFFFC, 1}, {1<<32 - 1, 0xFFFFFFFF, 4},
		{1 << 32, 0, 5}, {1<<32 + 20, 20, 25}, {7<<32 + 65531, 65531, 65536}, {-(1 << 32), 0, 5}, {-(1 << 32) - 1, 0xFFFFFFFF, 4}, {0x123456789ABC, 0x56789ABC, 0x56789AC1},
		{math.MaxInt, 0xFFFFFFFF, 4}, {math.MaxInt - 3, 0xFFFFFFFC, 1}, {math.MaxInt - 4, 0xFFFFFFFB, 0}, {math.MaxInt - 5, 0xFFFFFFFA, 0xFFFFFFFF},
		{math.MinInt, 0, 5}, {math.MinInt + 1, 1, 6}, {math.MinInt + 20, 20, 25},
	}
}

// checkSite asks for both instructions in both directions.
func checkSite(t *testing.T, s api.Site, target, behind uint32) {
	t.Helper()
	if to := Effect(s, true); to != target {
		t.Errorf("Effect(%v, true): %d, not %d", s, to, target)
	}
	if to := Effect(s, false); to != behind {
		t.Errorf("Effect(%v, false): %d, not %d", s, to, behind)
	}
	if to := Old(s, true); to != behind {
		t.Errorf("Old(%v, true): %d, not %d", s, to, behind)
	}
	if to := Old(s, false); to != target {
		t.Errorf("Old(%v, false): %d, not %d", s, to, target)
	}
}

// P20.1, R1: every pair of a place and a target, up to both ends of an int; more than 32 bits are told as 32.
func TestEffectAndOld(t *testing.T) {
	for _, at := range numbers() {
		for _, to := range numbers() {
			checkSite(t, api.Site{At: at.n, To: to.n}, to.target, at.behind)
		}
	}
}

// P20.1: of every place and target that a batch may hold.
func TestEffectAndOldInMemory(t *testing.T) {
	for n := range 65537 {
		checkSite(t, api.Site{At: n, To: 65536 - n}, uint32(65536-n), uint32(n+5))
	}
}

// P20.1: the direction is the one that is told; the Key plays no part, be it a batch's or any other number.
func TestKeyPlaysNoPart(t *testing.T) {
	for _, key := range []int{0, 1, 2, 3, 63, 64, 255, 256, 257, -1, -2, 1 << 32, 1<<32 + 1, math.MaxInt, math.MinInt, math.MinInt + 1} {
		checkSite(t, api.Site{Key: key, At: 20, To: 5}, 5, 25)
		checkSite(t, api.Site{Key: key, At: 5, To: 20}, 20, 10)
		checkSite(t, api.Site{Key: key, At: 0, To: 0}, 0, 5)
		checkSite(t, api.Site{Key: key, At: -5, To: -1}, 0xFFFFFFFF, 0)
		checkSite(t, api.Site{Key: key, At: 65531, To: 65536}, 65536, 65536)
	}
}

// R4: both hang on what is told alone, whatever was asked ahead.
func TestEffectAndOldAgain(t *testing.T) {
	one, other := api.Site{Key: 1, At: 20, To: 5}, api.Site{Key: 0, At: 7, To: 900}
	for range 3 {
		checkSite(t, one, 5, 25)
		checkSite(t, other, 900, 12)
	}
}
