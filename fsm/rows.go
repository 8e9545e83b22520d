package fsm

import (
	"slices"

	"garner/api"
	"garner/bits"
	"garner/fid"
)

const (
	nobody     = -1 // in the place of a node: a shard that nobody has
	firstEpoch = 1
	maxEpoch   = 1<<31 - 1
	firstKey   = 1
	maxKey     = 1 << 40
	maxRows    = 4096
)

// rows is volumes, by their ids: the first one has the id 1.
type rows struct {
	list []row
}

// row is a volume.
type row struct {
	state, epoch int
	frozen       bool
	nodes        []int
	next         uint64 // the next key
}

// row is the volume of an id; nil, if there is none.
func (r *rows) row(id int) *row {
	if id < 1 || id > len(r.list) {
		return nil
	}
	return &r.list[id-1]
}

// nothing does nothing.
func (r *rows) nothing([]int) ([]int, api.Errno) { return nil, api.OK }

// grow is a new volume.
func (r *rows) grow(nodes []int) ([]int, api.Errno) {
	v := row{state: api.Open, epoch: firstEpoch, next: firstKey}
	if !v.mayBe(api.Open, nodes) {
		return nil, api.ErrArg
	}
	if len(r.list) >= maxRows {
		return nil, api.ErrEnd
	}
	v.nodes = slices.Clone(nodes)
	r.list = append(r.list, v)
	return []int{len(r.list)}, api.OK
}

// assign is the next key of a volume.
func (r *rows) assign(nums []int) ([]int, api.Errno) {
	id, salt := nums[0], nums[1]
	v := r.row(id)
	switch {
	case v == nil:
		return nil, api.ErrNone
	case v.state != api.Open:
		return nil, api.ErrShut
	case v.frozen:
		return nil, api.ErrEpoch
	case v.next > maxKey:
		return nil, api.ErrEnd
	}
	key := v.next
	v.next++
	cookie := fid.Cookie(id, key, uint32(salt))
	return append([]int{id, int(key), int(cookie), v.epoch}, v.nodes...), api.OK
}

// look is what a volume is.
func (r *rows) look(nums []int) ([]int, api.Errno) {
	id := nums[0]
	v := r.row(id)
	if v == nil {
		return nil, api.ErrNone
	}
	return append([]int{id, v.state, v.epoch, v.isFrozen()}, v.nodes...), api.OK
}

// freeze is a volume of which nothing is assigned till it is placed.
func (r *rows) freeze(nums []int) ([]int, api.Errno) { return r.change(nums, true) }

// place is a volume that has other nodes, or another state, from now on.
func (r *rows) place(nums []int) ([]int, api.Errno) { return r.change(nums, false) }

// change is a volume's next epoch.
func (r *rows) change(nums []int, freezes bool) ([]int, api.Errno) {
	epoch, state, nodes := nums[1], nums[2], nums[3:]
	v := r.row(nums[0])
	switch {
	case v == nil:
		return nil, api.ErrNone
	case epoch != v.epoch || !freezes && !v.frozen:
		return nil, api.ErrEpoch
	case v.epoch >= maxEpoch:
		return nil, api.ErrEnd
	case !v.mayBe(state, nodes) || freezes && !v.mayFreeze(state, nodes):
		return nil, api.ErrArg
	}
	v.frozen = freezes
	v.epoch++
	v.state, v.nodes = state, slices.Clone(nodes)
	return []int{v.epoch}, api.OK
}

// mayBe tells whether a volume may come to be in a state, with nodes.
func (v *row) mayBe(state int, nodes []int) bool {
	set, ok := setOf(nodes)
	if !ok || set == 0 || state < v.state || state > api.Strips {
		return false
	}
	return state == api.Strips || !slices.Contains(nodes, nobody)
}

// mayFreeze tells whether a freeze may leave a volume this state and these nodes: it takes nodes away at most, and may seal.
func (v *row) mayFreeze(state int, nodes []int) bool {
	if state != v.state && (v.state != api.Open || state != api.Sealed) {
		return false
	}
	if state == api.Strips {
		return v.isAtPlaces(nodes)
	}
	own, _ := setOf(v.nodes)
	set, _ := setOf(nodes)
	return set&^own == 0
}

// isAtPlaces tells whether each of the nodes has the shard that it has already.
func (v *row) isAtPlaces(nodes []int) bool {
	for i, n := range nodes {
		if n != nobody && (i >= len(v.nodes) || n != v.nodes[i]) {
			return false
		}
	}
	return true
}

// setOf is nodes as digits of a number, without nobody; false, if one is no node or stands twice.
func setOf(nodes []int) (uint64, bool) {
	var set uint64
	for _, n := range nodes {
		if n == nobody {
			continue
		}
		if n < 0 || n >= api.MaxNodes || set>>n&1 == 1 {
			return 0, false
		}
		set |= 1 << n
	}
	return set, true
}

// isFrozen is 1, if it is frozen, else 0.
func (v *row) isFrozen() int {
	if v.frozen {
		return 1
	}
	return 0
}

// told is a volume as it is told.
func (v *row) told(id int) api.Volume {
	return api.Volume{ID: id, State: v.state, Epoch: v.epoch, Nodes: slices.Clone(v.nodes), Frozen: v.frozen}
}

// bytes is all that a volume is.
func (v *row) bytes(id int) []byte {
	var b []byte
	for _, n := range [...]int{id, v.state, v.epoch, v.isFrozen(), len(v.nodes)} {
		b = append(b, bits.Uvarint(uint64(n))...)
	}
	for _, n := range v.nodes {
		// One more, so that nobody is a number too.
		b = append(b, bits.Uvarint(uint64(n+1))...)
	}
	return append(b, bits.Uvarint(v.next)...)
}
