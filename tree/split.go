package tree

import "sapling/api"

// crowded tells whether the node has too many keys for a page.
func crowded(n api.Node) bool {
	if n.Level == 0 {
		return len(n.Keys) > api.MaxLeaf
	}
	return len(n.Keys) > api.MaxInner
}

// pagesToSplit: the root stays at page 0, above its halves; any other node stays as its own left half.
func pagesToSplit(s state) int {
	if s.page == 0 {
		return maxSpares
	}
	return 1
}

// piece is what the next access of a split writes: the right half, then the left one with a link
// to it, then, at page 0, a node above both. The last of them takes the place of the node that is
// split: until then nothing leads to the others, and then everything is there at once.
func piece(n api.Node, middle int, s state) api.Node {
	low := n.Keys[middle]
	switch s.laid {
	case 0:
		right := api.Node{Level: n.Level, Link: n.Link, High: n.High}
		takeOver(&right, n, low, n.High)
		return right
	case 1:
		left := api.Node{Level: n.Level, Link: s.spares[0], High: low}
		takeOver(&left, n, 0, low)
		return left
	}
	return api.Node{
		Level: n.Level + 1,
		Link:  -1,
		High:  api.NoHigh,
		Keys:  []int{0, low},
		Vals:  []int{s.spares[1], s.spares[0]},
	}
}

// tellFresh is what Tell answers to a Put that wanted a page; -1: there is none.
func tellFresh(s state, number int) (string, api.Answer, bool, api.Errno) {
	if number == -1 && s.level == 0 {
		return "", api.Answer{Err: api.ErrFull}, true, api.OK
	}
	// It took effect long ago: what is not entered is found by links.
	if number == -1 {
		return "", api.Answer{Point: s.point}, true, api.OK
	}
	if !isChild(number) {
		return astray()
	}
	s.spares = append(s.spares, number)
	s.spareVersions = append(s.spareVersions, 0)
	s.laid++
	return goOn(s)
}

// tellSpare is what Tell answers to a Put that wanted to swap a page that it has made.
func tellSpare(s state, done bool) (string, api.Answer, bool, api.Errno) {
	if !done {
		// Nothing leads to the page, so nobody should have turned it: as somebody has, it is theirs.
		s.spares = s.spares[:s.laid]
		s.spareVersions = s.spareVersions[:s.laid]
		return goOn(s)
	}
	s.spareVersions[s.laid]++
	s.laid++
	return goOn(s)
}

// enterHalf is what Tell answers to a Put that has split a node other than the root: the right
// half, at the first of its pages, is to be entered a level above.
func enterHalf(s state, low int) (string, api.Answer, bool, api.Errno) {
	s.level++
	s.low = low
	s.child = s.spares[0]
	s.spares = s.spares[1:]
	s.spareVersions = s.spareVersions[1:]
	return readOn(s, 0)
}
