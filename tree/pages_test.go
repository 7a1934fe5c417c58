package tree

import (
	"fmt"
	"testing"

	"sapling/api"
	"sapling/page"
)

// pages is what the caller holds.
type pages struct {
	texts    [64]string
	versions [64]int
	used     [64]bool
	strict   bool // whether P9 and P10 are held against, behind every access
	known    *known
}

// known is what was made out of these texts, so that it need not be made again.
type known struct {
	texts   [64]string
	content map[int]int
}

// begun are the pages as they are at the beginning.
func begun() *pages {
	p := laid(First())
	p.strict = true
	return p
}

// same tells whether the caller could not tell the one from the other.
func (p *pages) same(q *pages) bool {
	return p.texts == q.texts && p.versions == q.versions && p.used == q.used
}

// count tells how many pages are not free.
func (p *pages) count() int {
	count := 0
	for _, used := range p.used {
		if used {
			count++
		}
	}
	return count
}

// leave takes all free pages away but so many.
func (p *pages) leave(free int) {
	for i := range p.used {
		if p.used[i] {
			continue
		}
		if free > 0 {
			free--
			continue
		}
		p.used[i], p.texts[i] = true, "0------"
	}
}

// laid has these texts at the pages from 0 on.
func laid(texts ...string) *pages {
	p := &pages{}
	for i, text := range texts {
		p.texts[i] = text
		p.used[i] = true
	}
	return p
}

// act does an access, as the document has it under 'Words'.
func (p *pages) act(a api.Ask) api.Reply {
	is := a.Page >= 0 && a.Page < 64 && p.used[a.Page]
	switch a.Kind {
	case api.Read:
		if !is {
			return api.Reply{Version: -1}
		}
		return api.Reply{Version: p.versions[a.Page], Text: p.texts[a.Page]}
	case api.Swap:
		if !is || p.versions[a.Page] != a.Version || len(a.Text) > 47 {
			return api.Reply{}
		}
		p.texts[a.Page] = a.Text
		p.versions[a.Page]++
		return api.Reply{Done: true}
	case api.Fresh:
		for i := range p.used {
			if !p.used[i] && len(a.Text) <= 47 {
				p.used[i], p.texts[i], p.versions[i] = true, a.Text, 0
				return api.Reply{Page: i}
			}
		}
	}
	return api.Reply{Page: -1}
}

func (p *pages) node(t *testing.T, number int) api.Node {
	if number < 0 || number > 63 || !p.used[number] {
		t.Fatalf("page %d is free", number)
	}
	n, err := page.Unpack(p.texts[number])
	if err != api.OK {
		t.Fatalf("page %d does not unpack: %q", number, p.texts[number])
	}
	return n
}

// leaves goes along the leaves, as P9 does.
func (p *pages) leaves(t *testing.T) []api.Node {
	n := p.node(t, 0)
	for n.Level > 0 {
		n = p.node(t, n.Vals[0])
	}
	list := []api.Node{n}
	for n.Link != -1 {
		if len(list) > 64 {
			t.Fatal("the leaves come to no end")
		}
		n = p.node(t, n.Link)
		list = append(list, n)
	}
	return list
}

// fault tells where P9's first two sentences or P10 do not hold; empty: they do.
func (p *pages) fault() string {
	var nodes [64]api.Node
	for i := range nodes {
		if !p.used[i] {
			continue
		}
		n, err := page.Unpack(p.texts[i])
		if err != api.OK {
			return fmt.Sprintf("page %d does not unpack: %q", i, p.texts[i])
		}
		nodes[i] = n
	}
	if nodes[0].High != 10000 {
		return "the root has a High"
	}
	if nodes[0].Level > 0 && nodes[0].Keys[0] != 0 {
		return "the root does not begin with 0"
	}
	above := []int{0}
	for level := nodes[0].Level - 1; level >= 0; level-- {
		row, fault := p.row(nodes, nodes[above[0]].Vals[0], level)
		if fault != "" {
			return fault
		}
		for _, number := range above {
			if fault := childFault(nodes, number, row); fault != "" {
				return fault
			}
		}
		above = row
	}
	return ""
}

// row goes along a row by links.
func (p *pages) row(nodes [64]api.Node, first, level int) ([]int, string) {
	var row []int
	var met [64]bool
	low := 0
	for number := first; number != -1; number = nodes[number].Link {
		n := nodes[number]
		if !p.used[number] || n.Level != level {
			return nil, fmt.Sprintf("page %d is no node of level %d", number, level)
		}
		if met[number] || n.High <= low {
			return nil, fmt.Sprintf("page %d: its High is not above that of the node ahead", number)
		}
		for i, key := range n.Keys {
			if key < low || (i == 0 && level > 0 && key != low) {
				return nil, fmt.Sprintf("page %d has the key %d, and begins with %d", number, key, low)
			}
		}
		met[number], low = true, n.High
		row = append(row, number)
	}
	return row, ""
}

// childFault looks at the children of one node.
func childFault(nodes [64]api.Node, number int, row []int) string {
	for i, k := range nodes[number].Keys {
		child := nodes[number].Vals[i]
		at := -1
		for j := range row {
			if row[j] == child {
				at = j
			}
		}
		if at == -1 {
			return fmt.Sprintf("page %d: its child %d is not in the row below", number, child)
		}
		if at > 0 && nodes[row[at-1]].High > k {
			return fmt.Sprintf("page %d: its child %d for keys from %d on begins later", number, child, k)
		}
		if nodes[child].High <= k {
			return fmt.Sprintf("page %d: its child %d for keys from %d on has the High %d", number, child, k, nodes[child].High)
		}
		if len(nodes[child].Keys) > 0 && nodes[child].Keys[0] < k {
			return fmt.Sprintf("page %d: its child %d for keys from %d on has the key %d", number, child, k, nodes[child].Keys[0])
		}
	}
	return ""
}
