package page

import "sapling/api"

// right tells whether a node is RIGHT, as DOC.md has it under 'Words'.
func right(n api.Node) bool {
	if n.Level < 0 || n.Level > api.MaxLevel {
		return false
	}
	if !rightEnd(n.Link, n.High) {
		return false
	}
	// The count comes ahead of the entries: a list may be of any length.
	if len(n.Keys) != len(n.Vals) || !rightCount(n.Level, len(n.Keys)) {
		return false
	}
	if !rightKeys(n) {
		return false
	}
	return rightVals(n)
}

func rightEnd(link, high int) bool {
	if high == api.NoHigh {
		return link == -1
	}
	return high >= 1 && high < api.NoHigh && rightPage(link)
}

// rightPage leaves out page 0: that is the root, to which nothing leads.
func rightPage(page int) bool {
	return page >= 1 && page < api.MaxPages
}

func rightCount(level, count int) bool {
	if level == 0 {
		return count <= api.MaxLeaf
	}
	return count >= 1 && count <= api.MaxInner
}

func rightKeys(n api.Node) bool {
	least := 0
	if n.Level == 0 {
		least = 1
	}
	for i := 0; i < len(n.Keys); i++ {
		key := n.Keys[i]
		// Below High first: only then can least = key + 1 not run over.
		if key >= n.High || key < least {
			return false
		}
		least = key + 1
	}
	return true
}

func rightVals(n api.Node) bool {
	for i := 0; i < len(n.Vals); i++ {
		if n.Level == 0 {
			if n.Vals[i] < 0 || n.Vals[i] > api.MaxValue {
				return false
			}
		} else if !rightPage(n.Vals[i]) {
			return false
		}
	}
	return true
}
