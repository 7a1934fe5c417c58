package tree

import (
	"sapling/api"
	"sapling/page"
)

// change is what a Put or a Drop is to do to the node that it has read.
type change struct {
	before api.Node
	pages  int    // how many pages it takes beside the node's own: none, if the node is not split
	low    int    // the key from which on a split's right half is
	text   string // what the next access is to write
}

// planned is the change that the operation is at; false: the node is not one for it.
func planned(s state) (change, bool) {
	n, err := page.Unpack(s.seen)
	if err != api.OK || n.Level != s.level || wanted(s) >= n.High {
		return change{}, false
	}
	c := change{before: n}
	next := changed(n, s)
	if crowded(next) {
		middle := (len(next.Keys) + 1) / 2
		c.pages = pagesToSplit(s)
		c.low = next.Keys[middle]
		next = piece(next, middle, s)
	}
	if s.laid > c.pages {
		return change{}, false
	}
	text, err := page.Pack(next)
	if err != api.OK {
		return change{}, false
	}
	c.text = text
	return c, true
}

// writing is the next access of a change.
func writing(s state, c change) api.Ask {
	if s.laid == c.pages {
		return api.Ask{Kind: api.Swap, Page: s.page, Version: s.version, Text: c.text}
	}
	if s.laid < len(s.spares) {
		return api.Ask{Kind: api.Swap, Page: s.spares[s.laid], Version: s.spareVersions[s.laid], Text: c.text}
	}
	return api.Ask{Kind: api.Fresh, Text: c.text}
}

// changed is the node as it is to be, though it may have one key too many for a page.
func changed(n api.Node, s state) api.Node {
	key := wanted(s)
	after := api.Node{Level: n.Level, Link: n.Link, High: n.High}
	takeOver(&after, n, 0, key)
	if s.op.Kind == api.Put {
		value := entered(s)
		after.Keys = append(after.Keys, key)
		after.Vals = append(after.Vals, value)
	}
	takeOver(&after, n, key+1, n.High)
	return after
}

// entered is what a Put has for the key that it is to enter.
func entered(s state) int {
	if s.level > 0 {
		return s.child
	}
	return s.op.Value
}

// takeOver adds what the node has for the keys from low on, below high.
func takeOver(to *api.Node, n api.Node, low, high int) {
	for i := 0; i < len(n.Keys) && i < len(n.Vals); i++ {
		if n.Keys[i] >= low && n.Keys[i] < high {
			to.Keys = append(to.Keys, n.Keys[i])
			to.Vals = append(to.Vals, n.Vals[i])
		}
	}
}

// changeNode is what Tell answers to a Put or a Drop that has read the node in which it has
// something to change.
func changeNode(s state, n api.Node, r api.Reply) (string, api.Answer, bool, api.Errno) {
	if s.op.Kind == api.Drop {
		had := lookUp(s, n)
		if !had.Found {
			return "", had, true, api.OK
		}
	}
	s.seen = r.Text
	s.version = r.Version
	c, ok := planned(s)
	// Only a free page has a version below 0, and that has no text: it is not this frame's reply.
	if !ok || r.Version < 0 {
		return astray()
	}
	// No level is left above for the halves: but the links alone lead to every key as well.
	if c.pages > 0 && s.level == api.MaxLevel {
		return "", api.Answer{Point: s.point}, true, api.OK
	}
	return goOn(s)
}

// tellSwap is what Tell answers to a Put or a Drop that wanted to swap the node that it has read.
func tellSwap(s state, c change, done bool) (string, api.Answer, bool, api.Errno) {
	s.seen = ""
	s.version = 0
	s.laid = 0
	if !done {
		// The page has turned: what was read of it is worth nothing. But nodes give up keys to the
		// right alone, and page 0 to its children: so the way to the key still leads on from here.
		return readOn(s, s.page)
	}
	answer := api.Answer{Point: s.point}
	if s.level == 0 {
		answer = lookUp(s, c.before)
	}
	// Of the root's halves the root itself tells already.
	if c.pages != 1 {
		return "", answer, true, api.OK
	}
	s.point = answer.Point
	return enterHalf(s, c.low)
}
