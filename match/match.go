// Package match compares the nodes of valid trees with valid selectors. It is no layer: it is what the packages share that look for nodes by selectors.
package match

import "forme/api"

// Parents returns for each node of a tree the index of its parent, and -1 for the root.
func Parents(nodes []api.Node) []int {
	at := make(map[int]int, len(nodes))
	up := make([]int, len(nodes))
	for i, n := range nodes {
		at[n.ID] = i
		up[i] = -1
		if p, ok := at[n.Parent]; ok {
			up[i] = p
		}
	}
	return up
}

// Fulfils reports whether a node fulfils a test.
func Fulfils(n api.Node, t api.Test) bool {
	t.Child = false
	if t == (api.Test{}) {
		return true
	}
	return (t.Kind == 0 || t.Kind == n.Kind) && (t.Class == 0 || t.Class == n.Class) && (t.ID == 0 || t.ID == n.ID)
}

// All says for each node of a tree whether a selector matches it.
// Each node has a set of the beginnings of the selector that match it: they follow from those of the nodes above it.
func All(nodes []api.Node, up []int, l []api.Test) []bool {
	own := make([]int, len(nodes))
	above := make([]int, len(nodes))
	matched := make([]bool, len(nodes))
	for i, n := range nodes {
		parent, all := 0, 0
		if up[i] >= 0 {
			parent, all = own[up[i]], above[up[i]]
		}
		for k, t := range l {
			before := all
			if t.Child {
				before = parent
			}
			if (k == 0 || before&(1<<(k-1)) != 0) && Fulfils(n, t) {
				own[i] |= 1 << k
			}
		}
		above[i] = all | own[i]
		matched[i] = own[i]&(1<<(len(l)-1)) != 0
	}
	return matched
}
