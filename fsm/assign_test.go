package fsm_test

import (
	"math"
	"slices"
	"testing"

	"garner/api"
	"garner/fid"
)

// salts are of all kinds: below 0, with more than 32 digits, and such as differ above the lowest 32 digits alone.
func salts() []int {
	return []int{0, 1, 9, 255, 1<<31 - 1, 1 << 31, 1<<32 - 1, 1 << 32, 1<<32 + 9, 7<<32 + 9, 1<<40 + 1, 0x7fffffff00000009, math.MaxInt, -1, -2, -9, -1 << 31, -1<<31 - 1, -1 << 32, -1<<32 + 9, math.MinInt, math.MinInt + 9}
}

// TestP18_2Assign is the next key of each volume, one more each time, with chapter 15's Cookie of it.
func TestP18_2Assign(t *testing.T) {
	x := grown(t, []int{3, 4}, []int{0}, up(0, 64))
	for i, salt := range salts() {
		for id := 1; id <= 3; id++ {
			c := int(fid.Cookie(id, uint64(i+1), uint32(salt)))
			x.gives(slices.Concat([]int{id, i + 1, c, 1}, x.p.volumes[id].nodes), assign, id, salt)
		}
	}
	// Of one volume alone: the others' keys stay.
	for key := 23; key < 300; key++ {
		x.gives([]int{2, key, cookie(2, key, -key), 1, 0}, assign, 2, -key)
	}
	x.gives([]int{1, 23, cookie(1, 23, 5), 1, 3, 4}, assign, 1, 5)
}

// TestP18_2AssignCookie is one Cookie worked out by hand, of a salt with 32 digits, and of such as have the same ones.
func TestP18_2AssignCookie(t *testing.T) {
	for _, salt := range []int{0, 1 << 32, -1 << 32, 5 << 40, math.MinInt} {
		x := grown(t, []int{3, 4})
		x.gives([]int{1, 1, 0x4ca45c42, 1, 3, 4}, assign, 1, salt)
	}
}

// TestP18_2AssignEpoch is that the Epoch and the Nodes are those of now, and that keys go on behind changes.
func TestP18_2AssignEpoch(t *testing.T) {
	x := grown(t, []int{3, 4})
	x.gives([]int{1, 1, cookie(1, 1, 9), 1, 3, 4}, assign, 1, 9)
	x.gives([]int{2}, freeze, 1, 1, 0, 4)
	x.gives([]int{3}, place, 1, 2, 0, 5, 4, 0)
	x.gives([]int{1, 2, cookie(1, 2, 9), 3, 5, 4, 0}, assign, 1, 9)
	x.gives([]int{1, 3, cookie(1, 3, 9), 3, 5, 4, 0}, assign, 1, 9)
}

// TestP18_2AssignNone is ids of no volume.
func TestP18_2AssignNone(t *testing.T) {
	x := fresh(t)
	x.errs(api.ErrNone, or(assign, 1, 9), or(assign, 0, 9), or(assign, -1, 9))
	x = grown(t, []int{3, 4}, []int{5})
	for _, id := range append(strange(), 0, -1, 3) {
		x.errs(api.ErrNone, or(assign, id, 9), or(assign, id, 0), or(assign, id, math.MaxInt))
	}
	x.gives([]int{1, 1, cookie(1, 1, 9), 1, 3, 4}, assign, 1, 9)
	x.gives([]int{2, 1, cookie(2, 1, 9), 1, 5}, assign, 2, 9)
}

// TestP18_2AssignShut is volumes that are not Open, Frozen or not: that is told first; and of one that is Open and Frozen.
func TestP18_2AssignShut(t *testing.T) {
	x := grown(t, []int{3, 4}, []int{3, 4})
	x.gives([]int{2}, freeze, 1, 1, api.Open, 3, 4)
	x.errs(api.ErrEpoch, or(assign, 1, 9))
	x.gives([]int{3}, place, 1, 2, api.Open, 3, 4)
	x.gives([]int{1, 1, cookie(1, 1, 9), 3, 3, 4}, assign, 1, 9)
	x.gives([]int{4}, freeze, 1, 3, api.Sealed, 3, 4)
	x.errs(api.ErrShut, or(assign, 1, 9))
	x.gives([]int{5}, place, 1, 4, api.Sealed, 3, 4)
	x.errs(api.ErrShut, or(assign, 1, 9))
	x.gives([]int{6}, freeze, 1, 5, api.Sealed, 3, 4)
	x.errs(api.ErrShut, or(assign, 1, 9))
	x.gives([]int{7}, place, 1, 6, api.Strips, 3, 4, -1)
	x.errs(api.ErrShut, or(assign, 1, 9))
	x.gives([]int{8}, freeze, 1, 7, api.Strips, 3, -1, -1)
	x.errs(api.ErrShut, or(assign, 1, 9))
	x.gives([]int{2, 1, cookie(2, 1, 9), 1, 3, 4}, assign, 2, 9)
}

// TestP18_2AssignEnd is the last key, and what is behind it.
func TestP18_2AssignEnd(t *testing.T) {
	x := grown(t, []int{3, 4}, []int{5})
	x.next(1, 1<<40-1)
	x.gives([]int{1, 1<<40 - 1, cookie(1, 1<<40-1, 9), 1, 3, 4}, assign, 1, 9)
	x.gives([]int{1, 1 << 40, cookie(1, 1<<40, 9), 1, 3, 4}, assign, 1, 9)
	x.errs(api.ErrEnd, or(assign, 1, 9), or(assign, 1, 0), or(assign, 1, -1))
	x.gives([]int{2, 1, cookie(2, 1, 9), 1, 5}, assign, 2, 9)
	// All else of it goes on, and what is told ahead of that error is.
	x.gives([]int{1, 0, 1, 0, 3, 4}, look, 1)
	x.gives([]int{2}, freeze, 1, 1, api.Open, 3)
	x.errs(api.ErrEpoch, or(assign, 1, 9))
	x.gives([]int{3}, place, 1, 2, api.Open, 3, 6)
	x.errs(api.ErrEnd, or(assign, 1, 9))
	x.gives([]int{4}, freeze, 1, 3, api.Sealed, 3)
	x.errs(api.ErrShut, or(assign, 1, 9))
}

// next is a volume of which very many keys were assigned.
func (x *bench) next(id, key int) {
	x.t.Helper()
	x.table.SetNext(id, uint64(key))
	x.p.volumes[id].next = key
	x.agrees("many keys")
}

// epoch is a volume that was changed very often.
func (x *bench) epoch(id, epoch int) {
	x.t.Helper()
	x.table.SetEpoch(id, epoch)
	x.p.volumes[id].epoch = epoch
	x.agrees("many epochs")
}

// TestP18_2Look is volumes of each State, Frozen and not.
func TestP18_2Look(t *testing.T) {
	x := grown(t, []int{3, 4}, up(0, 64), []int{63})
	x.gives([]int{1, 0, 1, 0, 3, 4}, look, 1)
	x.gives(slices.Concat([]int{2, 0, 1, 0}, up(0, 64)), look, 2)
	x.gives([]int{3, 0, 1, 0, 63}, look, 3)
	x.gives([]int{2}, freeze, 1, 1, api.Open, 4, 3)
	x.gives([]int{1, 0, 2, 1, 4, 3}, look, 1)
	x.gives([]int{3}, freeze, 1, 2, api.Sealed, 3)
	x.gives([]int{1, 1, 3, 1, 3}, look, 1)
	x.gives([]int{4}, place, 1, 3, api.Sealed, 5)
	x.gives([]int{1, 1, 4, 0, 5}, look, 1)
	x.gives([]int{5}, freeze, 1, 4, api.Sealed, 5)
	x.gives([]int{6}, place, 1, 5, api.Strips, -1, 0, 63, -1)
	x.gives([]int{1, 2, 6, 0, -1, 0, 63, -1}, look, 1)
	x.gives([]int{7}, freeze, 1, 6, api.Strips, -1, -1, 63, -1)
	x.gives([]int{1, 2, 7, 1, -1, -1, 63, -1}, look, 1)
	x.gives([]int{3, 0, 1, 0, 63}, look, 3)
}

// TestP18_2LookNone is ids of no volume.
func TestP18_2LookNone(t *testing.T) {
	x := fresh(t)
	x.errs(api.ErrNone, or(look, 1), or(look, 0), or(look, -1))
	x = grown(t, []int{3, 4}, []int{5})
	for _, id := range append(strange(), 0, -1, 3) {
		x.errs(api.ErrNone, or(look, id))
	}
}
