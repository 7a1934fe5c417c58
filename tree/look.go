package tree

import "sapling/api"

// wanted is the key for which the operation looks now.
func wanted(s state) int {
	if s.level > 0 {
		return s.low
	}
	if len(s.belows) > 0 {
		return s.belows[len(s.belows)-1]
	}
	return s.op.Key
}

// onward is the page to go to from a node that does not itself hold the key; -1: there is none.
func onward(n api.Node, key int) int {
	if key >= n.High {
		return n.Link
	}
	child := -1
	for i := 0; i < len(n.Keys) && i < len(n.Vals); i++ {
		if n.Keys[i] <= key {
			child = n.Vals[i]
		}
	}
	return child
}

// readOn is what Tell answers if the operation wants to read this page next.
func readOn(s state, next int) (string, api.Answer, bool, api.Errno) {
	// Only a node that no way leads to for this key has none onward: it is not this frame's reply.
	if next < 0 {
		return astray()
	}
	s.page = next
	return goOn(s)
}

// lookUp is the answer of an operation that ends with reading the leaf of its key.
func lookUp(s state, leaf api.Node) api.Answer {
	answer := api.Answer{Point: s.step}
	for i := 0; i < len(leaf.Keys) && i < len(leaf.Vals); i++ {
		if leaf.Keys[i] == s.op.Key {
			answer.Found = true
			answer.Value = leaf.Vals[i]
		}
	}
	return answer
}

// scanLeaf is what Tell answers to a Scan at a leaf: a piece more, and perhaps the end.
func scanLeaf(s state, leaf api.Node) (string, api.Answer, bool, api.Errno) {
	s.addKeys(leaf)
	end := s.op.Value + 1
	below := leaf.High
	if below > end {
		below = end
	}
	full := len(s.keys) >= api.MaxScan
	if full {
		below = s.keys[len(s.keys)-1] + 1
	}
	s.belows = append(s.belows, below)
	s.points = append(s.points, s.step)
	if full || below == end {
		return "", scanned(s), true, api.OK
	}
	return readOn(s, leaf.Link)
}

// addKeys takes over what the leaf has of the keys that are still looked for, while there is room.
func (s *state) addKeys(leaf api.Node) {
	least := wanted(*s)
	for i := 0; i < len(leaf.Keys) && i < len(leaf.Vals); i++ {
		key := leaf.Keys[i]
		if key >= least && key <= s.op.Value && len(s.keys) < api.MaxScan {
			s.keys = append(s.keys, key)
			s.vals = append(s.vals, leaf.Vals[i])
		}
	}
}

// scanned is the answer of a Scan that has ended.
func scanned(s state) api.Answer {
	answer := api.Answer{
		Found: len(s.keys) > 0,
		Value: len(s.keys),
		Point: s.step,
		Keys:  s.keys,
		Vals:  s.vals,
	}
	for i := 0; i < len(s.belows) && i < len(s.points); i++ {
		answer.Cuts = append(answer.Cuts, api.Cut{Below: s.belows[i], Point: s.points[i]})
	}
	return answer
}
