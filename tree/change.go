package tree

import (
	"sapling/api"
	"sapling/page"
)

// changeLeaf is what Tell answers to a Put or a Drop that has read the leaf of its key.
func changeLeaf(s state, leaf api.Node, version int) (string, api.Answer, bool, api.Errno) {
	had := lookUp(s, leaf)
	if !had.Found && s.op.Kind == api.Drop {
		return "", had, true, api.OK
	}
	// Leaves are not split yet: without room the Put has no effect, and ErrFull alone may say so.
	if !had.Found && len(leaf.Keys) >= api.MaxLeaf {
		return "", api.Answer{Err: api.ErrFull}, true, api.OK
	}
	after := changed(leaf, s.op)
	text, err := page.Pack(after)
	// Only a free page has a version below 0, and that has no text: it is not this frame's reply.
	if err != api.OK || version < 0 {
		return "", api.Answer{}, false, api.ErrFrame
	}
	s.swap = text
	s.version = version
	s.found = had.Found
	s.value = had.Value
	s.step++
	return frameText(s), api.Answer{}, false, api.OK
}

// changed is the leaf as it is behind a Put or a Drop.
func changed(leaf api.Node, op api.Op) api.Node {
	after := api.Node{Level: leaf.Level, Link: leaf.Link, High: leaf.High}
	takeOver(&after, leaf, 0, op.Key)
	if op.Kind == api.Put {
		after.Keys = append(after.Keys, op.Key)
		after.Vals = append(after.Vals, op.Value)
	}
	takeOver(&after, leaf, op.Key+1, leaf.High)
	return after
}

// takeOver adds what the leaf has for the keys from low on, below high.
func takeOver(to *api.Node, leaf api.Node, low, high int) {
	for i := 0; i < len(leaf.Keys) && i < len(leaf.Vals); i++ {
		if leaf.Keys[i] >= low && leaf.Keys[i] < high {
			to.Keys = append(to.Keys, leaf.Keys[i])
			to.Vals = append(to.Vals, leaf.Vals[i])
		}
	}
}

// tellSwap is what Tell answers to a Put or a Drop that wanted to swap its leaf.
func tellSwap(s state, done bool) (string, api.Answer, bool, api.Errno) {
	if done {
		return "", api.Answer{Found: s.found, Value: s.value, Point: s.step}, true, api.OK
	}
	// The page has turned: what was read of it is worth nothing. But nodes give up keys to the
	// right alone, and page 0 to its children: so the way to the key still leads on from here.
	again := state{op: s.op, step: s.step}
	return goOn(again, s.page)
}
