package quasi

import (
	"slices"

	"grammarlab/api"
	"grammarlab/hier"
)

// unification is what is known while two feature structures are unified. Its nodes are those of the first one, and then
// those of the second one; a node of the pool that both have is two nodes here.
type unification struct {
	origin  []kept          // the node of the pool that each node is
	leader  []passing       // from each node the leaders lead to the one that stands for its class, which leads to itself
	classes []node[passing] // the type and the arcs of the class, at the node that stands for it
	second  passing         // the root of the second feature structure; that of the first one is 0
}

// passing is the number of a node of a unification, which lasts no longer than the call.
type passing int

// pair is two nodes that must be equivalent.
type pair struct {
	a, b passing
}

// add adds the nodes that can be reached from a node of the pool.
func (u *unification) add(x *Pool, root kept) {
	place := make(map[kept]passing)
	number := func(n kept) passing {
		if _, ok := place[n]; !ok {
			place[n] = passing(len(u.origin))
			u.origin = append(u.origin, n)
			u.leader = append(u.leader, place[n])
		}
		return place[n]
	}
	for i := int(number(root)); i < len(u.origin); i++ {
		n := x.nodes[u.origin[i]]
		arcs := make([]arc[passing], len(n.arcs))
		for k, a := range n.arcs {
			arcs[k] = arc[passing]{feat: a.feat, to: number(a.to)}
		}
		u.classes = append(u.classes, node[passing]{typ: n.typ, arcs: arcs})
	}
}

// find returns the node that stands for the class of a node.
func (u *unification) find(n passing) passing {
	for u.leader[n] != n {
		u.leader[n] = u.leader[u.leader[n]] // makes the way shorter for later calls
		n = u.leader[n]
	}
	return n
}

// merge makes the two roots equivalent, and with them all nodes that must be so then; it reports whether each class has a type.
func (u *unification) merge(h api.Hierarchy) bool {
	for wait := []pair{{a: 0, b: u.second}}; len(wait) > 0; {
		a, b := u.find(wait[len(wait)-1].a), u.find(wait[len(wait)-1].b)
		wait = wait[:len(wait)-1]
		if a == b {
			continue
		}
		t, ok := hier.Meet(h, u.classes[a].typ, u.classes[b].typ)
		if !ok {
			return false
		}
		arcs, values := union(u.classes[a].arcs, u.classes[b].arcs)
		u.classes[a] = node[passing]{typ: t, arcs: arcs}
		u.leader[b] = a
		wait = append(wait, values...)
	}
	return true
}

// union returns the arcs of two classes, one for each feature, and the pairs of their values for the features that both have.
func union(a, b []arc[passing]) ([]arc[passing], []pair) {
	var l []arc[passing]
	var values []pair
	for _, x := range a {
		for len(b) > 0 && b[0].feat < x.feat {
			l = append(l, b[0])
			b = b[1:]
		}
		if len(b) > 0 && b[0].feat == x.feat {
			values = append(values, pair{a: x.to, b: b[0].to})
			b = b[1:]
		}
		l = append(l, x)
	}
	return append(l, b...), values
}

// shared returns for each class the node of the pool that it is, or none if there has to be a new one.
func (u *unification) shared(x *Pool) []kept {
	nothing := slices.Repeat([]kept{none}, len(u.origin))
	size := passing(len(u.origin))
	first, second := u.share(x, nothing, 0, u.second), u.share(x, nothing, u.second, size)
	// What the one shares may prevent the other one from sharing, so that the one that shares more comes first.
	if count(second) > count(first) {
		return u.share(x, second, 0, u.second)
	}
	return u.share(x, first, u.second, size)
}

// count returns how many classes are nodes of the pool.
func count(use []kept) int {
	n := 0
	for _, k := range use {
		if k != none {
			n++
		}
	}
	return n
}

// share adds to the classes that are nodes of the pool those that the nodes from one number up to another one permit.
//
// No node of the pool becomes two classes: the path at which it was when it came into the pool leads to it in every
// feature structure that has it, so that the two nodes of a unification that are this one are in the same class.
func (u *unification) share(x *Pool, before []kept, from, to passing) []kept {
	use := slices.Clone(before)
	for p := from; p < to; p++ {
		c, n := u.find(p), u.origin[p]
		if use[c] == none && u.unchanged(x.nodes[n], c) {
			use[c] = n
		}
	}
	u.withdraw(x, use)
	return use
}

// unchanged reports whether a class has the type and the features of one of its nodes.
func (u *unification) unchanged(n node[kept], c passing) bool {
	return n.typ == u.classes[c].typ && len(n.arcs) == len(u.classes[c].arcs)
}

// withdraw takes away each node of the pool that leads to another node than its class does.
func (u *unification) withdraw(x *Pool, use []kept) {
	leading := make([][]passing, len(use)) // the classes that lead to each class
	var wait []passing
	for p := range u.origin {
		c := passing(p)
		if u.find(c) != c {
			continue
		}
		wait = append(wait, c)
		for _, a := range u.classes[c].arcs {
			to := u.find(a.to)
			leading[to] = append(leading[to], c)
		}
	}
	for len(wait) > 0 {
		c := wait[len(wait)-1]
		wait = wait[:len(wait)-1]
		if use[c] != none && !u.leadsAlike(x.nodes[use[c]], c, use) {
			use[c] = none
			wait = append(wait, leading[c]...)
		}
	}
}

// leadsAlike reports whether the arcs of a class lead to the classes that are the nodes to which those of a node lead.
func (u *unification) leadsAlike(n node[kept], c passing, use []kept) bool {
	for i, a := range u.classes[c].arcs {
		if use[u.find(a.to)] != n.arcs[i].to {
			return false
		}
	}
	return true
}
