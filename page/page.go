// Package page: what a page says, as text: see DOC.md.
package page

import "sapling/api"

// Pack makes a node's text (P3).
func Pack(n api.Node) (string, api.Errno) {
	if !right(n) {
		return "", api.ErrNode
	}
	text := headText(n)
	width := valWidth(n.Level)
	for i := 0; i < len(n.Keys) && i < len(n.Vals); i++ {
		text += digits(n.Keys[i], keyWidth)
		text += digits(n.Vals[i], width)
	}
	return text, api.OK
}

// Unpack gives back a text's node (P4).
func Unpack(s string) (api.Node, api.Errno) {
	// Ahead of everything else, so that the work is bounded however long the text is.
	if len(s) > api.MaxBytes {
		return api.Node{}, api.ErrText
	}
	head, headOk := readHead(s)
	if !headOk {
		return api.Node{}, api.ErrText
	}
	n, entriesOk := readEntries(head, s)
	if !entriesOk {
		return api.Node{}, api.ErrText
	}
	// Widths are fixed, so two texts never read as one node: a right node is enough.
	if !right(n) {
		return api.Node{}, api.ErrText
	}
	return n, api.OK
}
