package fsm_test

import (
	"bytes"
	"math"
	"slices"
	"testing"

	"garner/api"
	"garner/fsm"
)

// isCommand asks Command for an order's bytes.
func isCommand(t *testing.T, kind int, nums []int, want []byte) {
	t.Helper()
	if b, e := fsm.Command(kind, nums); !bytes.Equal(b, want) || e != api.OK {
		t.Errorf("Command(%d, %d) is %x, error %d, not %x", kind, nums, b, e, want)
	}
}

// isNoCommand asks Command for bytes that there are not.
func isNoCommand(t *testing.T, kind int, nums []int) {
	t.Helper()
	if b, e := fsm.Command(kind, nums); len(b) != 0 || e != api.ErrArg {
		t.Errorf("Command(%d, %d) is %x, error %d, not %d", kind, nums, b, e, api.ErrArg)
	}
}

// TestP18_1 is commands whose bytes were worked out by hand: a record of From, To, Kind, how many Nums, each of them, and no Data.
func TestP18_1(t *testing.T) {
	for _, c := range []struct {
		kind int
		nums []int
		p    []byte
	}{
		{nothing, nil, []byte{0, 0, 1, 0, 0}},
		{grow, []int{3, 4}, []byte{0, 0, 2, 2, 6, 8, 0}},
		{assign, []int{1, 9}, []byte{0, 0, 3, 2, 2, 18, 0}},
		{assign, []int{300, -1}, []byte{0, 0, 3, 2, 0xd8, 4, 1, 0}},
		{look, []int{1}, []byte{0, 0, 4, 1, 2, 0}},
		{freeze, []int{1, 1, 0, 4}, []byte{0, 0, 5, 4, 2, 2, 0, 8, 0}},
		{place, []int{1, 2, 2, 4, -1, 5}, []byte{0, 0, 6, 6, 2, 4, 4, 8, 1, 10, 0}},
	} {
		isCommand(t, c.kind, c.nums, framed(c.p))
	}
	isCommand(t, nothing, nil, []byte{0, 0, 0, 5, 0xb7, 0x06, 0xef, 0x2a, 0, 0, 1, 0, 0})
}

// TestP18_1Kinds is each Kind near 1 and 6 and far beyond, with Nums and without.
func TestP18_1Kinds(t *testing.T) {
	for _, nums := range [][]int{nil, {}, {1}, {1, 9}, {1, 1, 0, 4}} {
		for kind := 1; kind <= 6; kind++ {
			isCommand(t, kind, nums, order{kind, nums}.bytes())
		}
		for _, kind := range []int{0, 7, 8, -1, -2, -6, 257, 1<<31 - 1, 1 << 31, 1 << 32, 1<<32 + 1, 1<<32 + 6, math.MaxInt, math.MinInt, math.MinInt + 1} {
			isNoCommand(t, kind, nums)
		}
	}
}

// TestP18_1Nums is that of Nums just so many are refused as chapter 3 refuses, whatever they are: that they fit is asked by Apply alone.
func TestP18_1Nums(t *testing.T) {
	all := slices.Concat(strange(), []int{0, 1, -1, 63}, up(0, 2000))
	for kind := 1; kind <= 6; kind++ {
		for n := range 65 {
			isCommand(t, kind, all[:n], order{kind, all[:n]}.bytes())
			isCommand(t, kind, all[n:2*n], order{kind, all[n : 2*n]}.bytes())
		}
		for _, n := range []int{65, 66, 128, 256, 2000} {
			isNoCommand(t, kind, all[:n])
			isNoCommand(t, kind, make([]int, n))
		}
	}
	isNoCommand(t, 0, make([]int, 65))
	isNoCommand(t, 7, make([]int, 65))
}

// TestP18_1Drawn is drawn commands.
func TestP18_1Drawn(t *testing.T) {
	d := drawn(18)
	for range 20000 {
		kind, nums := d.below(12)-3, make([]int, d.below(70))
		for i := range nums {
			nums[i] = int(d.next()) >> d.below(64)
		}
		if kind < 1 || kind > 6 || len(nums) > 64 {
			isNoCommand(t, kind, nums)
		} else {
			isCommand(t, kind, nums, order{kind, nums}.bytes())
		}
	}
}
