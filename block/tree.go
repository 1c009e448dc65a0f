package block

import (
	"slices"

	"arbor/api"
)

// Node is a block, or a cut vertex, of the tree of both.
type Node struct {
	Cut    bool
	At     int
	Parent int
}

// root stands for the parent of the first node, which has none.
const root = -1

// Tree gives the tree of blocks and cut vertices, from the block of the first edge on.
func Tree(g api.Graph) []Node {
	blocks := Blocks(g)
	if len(blocks) == 0 {
		return nil
	}
	at := places(g, blocks)
	var nodes []Node
	hang := func(parent int, cut bool, list []int) {
		for _, x := range list {
			if !slices.ContainsFunc(nodes, func(n Node) bool { return n.Cut == cut && n.At == x }) {
				nodes = append(nodes, Node{Cut: cut, At: x, Parent: parent})
			}
		}
	}
	isNoCut := func(x int) bool { return len(at[x]) < 2 }
	hang(root, false, []int{0})
	for i := 0; i < len(nodes); i++ { // nodes grows meanwhile
		if n := nodes[i]; n.Cut {
			hang(i, false, at[n.At])
		} else {
			hang(i, true, slices.DeleteFunc(ends(g, blocks[n.At]), isNoCut))
		}
	}
	return nodes
}
