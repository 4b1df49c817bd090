package guard

import "rejoinder/api"

// mayBeSized tells whether an automaton has as many propositions, states, guards and nodes as there may be.
func mayBeSized(a api.Auto) bool {
	states := len(a.Accept)
	return count(a.Props) && 1 <= states && states <= api.MaxStates && len(a.Guard) == states && len(a.Nodes) <= api.MaxGuards
}

// isState tells whether a reference is that of a state that there is.
func isState(a api.Auto, ref int) bool { return ref < 0 && opposite(ref) < len(a.Accept) }

// mayBeSide tells whether the node of a place may go on to a reference: a node ahead of it, of a later proposition, so that no letter goes on for ever.
func mayBeSide(a api.Auto, at, ref int) bool {
	return isState(a, ref) || 0 <= ref && ref < at && a.Nodes[ref].P > a.Nodes[at].P
}

// mayBeNode tells whether a node may stand at its place.
func mayBeNode(a api.Auto, at int) bool {
	x := a.Nodes[at]
	return 0 <= x.P && x.P < a.Props && x.Lo != x.Hi && mayBeSide(a, at, x.Lo) && mayBeSide(a, at, x.Hi)
}

// mayBeNodes tells whether all nodes may stand where they do, each once.
func mayBeNodes(a api.Auto) bool {
	met := make(map[api.Node]int, len(a.Nodes))
	for at, x := range a.Nodes {
		if _, there := met[x]; there || !mayBeNode(a, at) {
			return false
		}
		met[x] = at
	}
	return true
}

// mayBeGuards tells whether each guard begins at a state that there is, or at a node.
func mayBeGuards(a api.Auto) bool {
	for _, ref := range a.Guard {
		if !isState(a, ref) && (ref < 0 || ref >= len(a.Nodes)) {
			return false
		}
	}
	return true
}
