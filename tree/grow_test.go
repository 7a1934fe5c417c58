package tree

import (
	"math/rand/v2"
	"slices"
	"testing"

	"sapling/api"
	"sapling/page"
)

// entry: from this key on, this page.
type entry struct{ key, page int }

// made is a node under making: it is for the keys from low on.
type made struct {
	low, page int
	n         api.Node
}

// grown makes pages of which P9's first two sentences and P10 hold, but that no Put need ever make:
// empty leaves, nodes that only a link leads to, children above whose first key others are entered.
func grown(t *testing.T, r *rand.Rand, level, most int) *pages {
	t.Helper()
	p := &pages{}
	if level == 0 {
		lay(t, p, made{n: api.Node{Link: -1, High: 10000}}, randomEntries(r, 0, most))
		return p
	}
	free := r.Perm(63)
	row := leafRow(t, p, r, &free, 1+r.IntN(40), most)
	for l := 1; l < level; l++ {
		row = innerRow(t, p, r, &free, row, l)
	}
	root := made{n: api.Node{Level: level, Link: -1, High: 10000}}
	lay(t, p, root, someOf(r, waysTo(r, row), 0, 10000))
	if fault := p.fault(); fault != "" {
		t.Fatalf("the test's own pages: %s: %q", fault, p.texts)
	}
	return p
}

func lay(t *testing.T, p *pages, m made, entries []entry) {
	t.Helper()
	for _, e := range entries {
		m.n.Keys = append(m.n.Keys, e.key)
		m.n.Vals = append(m.n.Vals, e.page)
	}
	text, err := page.Pack(m.n)
	if err != api.OK {
		t.Fatalf("the test's own node: %+v", m.n)
	}
	p.texts[m.page], p.used[m.page] = text, true
}

// randomEntries are those of a leaf for the keys from low on, below high.
func randomEntries(r *rand.Rand, low, high int) []entry {
	var list []entry
	for _, key := range randomKeys(r, max(low, 1), high, r.IntN(6)) {
		list = append(list, entry{key, r.IntN(10000)})
	}
	return list
}

// randomKeys rise, and are at most count.
func randomKeys(r *rand.Rand, low, high, count int) []int {
	var keys []int
	for i := 0; i < count && low < high; i++ {
		keys = append(keys, low+r.IntN(high-low))
	}
	slices.Sort(keys)
	return slices.Compact(keys)
}

// bounded makes nodes without entries that begin at these keys, with links.
func bounded(free *[]int, lows []int, level int) []made {
	var row []made
	for _, low := range lows {
		number := (*free)[0] + 1
		*free = (*free)[1:]
		if len(row) > 0 {
			row[len(row)-1].n.High = low
			row[len(row)-1].n.Link = number
		}
		row = append(row, made{low, number, api.Node{Level: level, Link: -1, High: 10000}})
	}
	return row
}

func leafRow(t *testing.T, p *pages, r *rand.Rand, free *[]int, count, most int) []made {
	t.Helper()
	lows := slices.Insert(randomKeys(r, 1, most, count-1), 0, 0)
	row := bounded(free, lows, 0)
	for i := range row {
		lay(t, p, row[i], randomEntries(r, row[i].low, min(row[i].n.High, most)))
		row[i].n = p.node(t, row[i].page)
	}
	return row
}

// innerRow leaves a page at least for each of the rows above.
func innerRow(t *testing.T, p *pages, r *rand.Rand, free *[]int, below []made, level int) []made {
	t.Helper()
	ways := waysTo(r, below)
	lows := []int{0}
	for _, e := range ways[1:] {
		if r.IntN(3) == 0 && len(lows) < 10-level && len(*free) > len(lows)+10 {
			lows = append(lows, e.key)
		}
	}
	row := bounded(free, lows, level)
	for i := range row {
		lay(t, p, row[i], someOf(r, ways, row[i].low, row[i].n.High))
	}
	return row
}

// waysTo are all entries that a node above may have for the nodes of a row: first that of key 0.
func waysTo(r *rand.Rand, row []made) []entry {
	var list []entry
	for _, m := range row {
		list = append(list, entry{m.low, m.page})
		if m.n.Level > 0 {
			continue
		}
		end := min(m.n.High-1, 9999)
		if len(m.n.Keys) > 0 {
			end = m.n.Keys[0]
		}
		for _, key := range randomKeys(r, m.low+1, end+1, r.IntN(3)) {
			list = append(list, entry{key, m.page})
		}
	}
	return list
}

// someOf are up to six of the entries from low on, below high: the first is that of low.
func someOf(r *rand.Rand, ways []entry, low, high int) []entry {
	var list, others []entry
	for _, e := range ways {
		if e.key == low {
			list = append(list, e)
		} else if e.key > low && e.key < high {
			others = append(others, e)
		}
	}
	count := r.IntN(6)
	for i, e := range others {
		if len(list) <= count && r.IntN(len(others)-i) < count+1-len(list) {
			list = append(list, e)
		}
	}
	return list
}
