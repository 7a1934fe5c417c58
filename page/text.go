package page

import (
	"strconv"

	"sapling/api"
)

// Where the parts of a text stand, in bytes.
const (
	levelWidth = 1
	linkStart  = levelWidth
	linkWidth  = 2
	highStart  = linkStart + linkWidth
	highWidth  = 4
	headWidth  = highStart + highWidth
	keyWidth   = 4
)

const (
	noLinkText = "--"
	noHighText = "----"
)

func valWidth(level int) int {
	if level == 0 {
		return 4
	}
	return 2
}

// headText is for right nodes alone: only then do the numbers fit their widths.
func headText(n api.Node) string {
	text := digits(n.Level, levelWidth)
	if n.High == api.NoHigh {
		return text + noLinkText + noHighText
	}
	text += digits(n.Link, linkWidth)
	text += digits(n.High, highWidth)
	return text
}

func digits(n, width int) string {
	text := strconv.Itoa(n)
	for len(text) < width {
		text = "0" + text
	}
	return text
}

// readHead gives a node without entries; whether it is right is not looked at.
func readHead(s string) (api.Node, bool) {
	if len(s) < headWidth {
		return api.Node{}, false
	}
	level, levelOk := number(s[:linkStart])
	link, linkOk := numberOr(s[linkStart:highStart], noLinkText, -1)
	high, highOk := numberOr(s[highStart:headWidth], noHighText, api.NoHigh)
	if !levelOk || !linkOk || !highOk {
		return api.Node{}, false
	}
	return api.Node{Level: level, Link: link, High: high}, true
}

// readEntries adds what stands behind the head; whether it is right is not looked at.
func readEntries(head api.Node, s string) (api.Node, bool) {
	n := api.Node{Level: head.Level, Link: head.Link, High: head.High}
	width := keyWidth + valWidth(head.Level)
	at := headWidth
	for at+width <= len(s) {
		key, keyOk := number(s[at : at+keyWidth])
		val, valOk := number(s[at+keyWidth : at+width])
		if !keyOk || !valOk {
			return api.Node{}, false
		}
		n.Keys = append(n.Keys, key)
		n.Vals = append(n.Vals, val)
		at += width
	}
	if at != len(s) {
		return api.Node{}, false
	}
	return n, true
}

// numberOr reads a number in whose place the text none may stand.
func numberOr(s, none string, meaning int) (int, bool) {
	if s == none {
		return meaning, true
	}
	return number(s)
}

// number reads plain digits alone: strconv.Atoi would take a sign as well.
func number(s string) (int, bool) {
	sum := 0
	for i := 0; i < len(s); i++ {
		if s[i] < '0' || s[i] > '9' {
			return 0, false
		}
		sum = 10*sum + int(s[i]-'0')
	}
	return sum, true
}
