package tree

import (
	"cmp"

	"leatwork/api"
)

// Compare compares trees, place by place.
func Compare(a, b api.Tree) (int, api.Errno) {
	if !Valid(a) || !Valid(b) {
		return 0, api.ErrForm
	}
	return order(a, b), api.OK
}

// order compares trees at all places, by depth and from the left to the right. A place is passed over if its nodes are linked by pairs that were looked at before: if they differ below it, two of a pair do so at an earlier place.
func order(a, b api.Tree) int {
	linked := newLinks(len(a.Nodes) + len(b.Nodes))
	places := [][2]int{{a.Root, b.Root}}
	for len(places) > 0 {
		x, y := places[0][0], places[0][1]
		places = places[1:]
		if !linked.add(x, len(a.Nodes)+y) {
			continue
		}
		if c := orderFaces(a.Nodes[x], b.Nodes[y]); c != 0 {
			return c
		}
		for i, arg := range a.Nodes[x].Args {
			places = append(places, [2]int{arg, b.Nodes[y].Args[i]})
		}
	}
	return 0
}

// orderFaces compares what can be seen of nodes without their arguments. Since fields that are not used are zero, one order fits all kinds.
func orderFaces(x, y api.Node) int {
	return cmp.Or(
		cmp.Compare(x.Kind, y.Kind),
		cmp.Compare(len(x.Args), len(y.Args)),
		cmp.Compare(x.Label, y.Label),
		cmp.Compare(x.Int, y.Int),
	)
}

// links tells which numbers are linked, directly or by others: each one leads to another number of its set, or to itself.
type links []int

func newLinks(count int) links {
	l := make(links, count)
	for i := range l {
		l[i] = i
	}
	return l
}

// top returns the number to which all of the set lead, and shortens the way to it.
func (l links) top(n int) int {
	for l[n] != n {
		l[n] = l[l[n]]
		n = l[n]
	}
	return n
}

// add links two numbers, and reports whether they were not linked before.
func (l links) add(x, y int) bool {
	x, y = l.top(x), l.top(y)
	if x == y {
		return false
	}
	l[x] = y
	return true
}
