package quorum

import "garner/disk"

// DiskOf is a node's disk itself, so that tests can look at it and spoil it.
func (g *Group) DiskOf(node int) *disk.Disk { return g.nodes[node].disk }
