package tree

import (
	"fmt"
	"slices"
	"strconv"
	"testing"

	"sapling/api"
)

// search goes to everything that clients' accesses can lead to, whatever their order is, but to
// nothing twice.
type search struct {
	met    map[string]bool
	puts   int // that were begun, those that made the pages among them
	ends   int // how many ways it may end
	missed int // the most Swaps of one operation that were not Done
	vain   int // ends with a Fresh in vain
	full   int // ends with an ErrFull
}

// from begins these operations, on pages that so many Puts have made.
func (s *search) from(t *testing.T, p *pages, puts int, ops ...api.Op) {
	t.Helper()
	s.met, s.puts = map[string]bool{}, puts
	var clients []*client
	for _, op := range ops {
		clients = append(clients, begin(t, op))
		if op.Kind == api.Put {
			s.puts++
		}
	}
	s.on(t, p.copied(), clients, 0)
}

// on checks what must hold at any time, and goes on with each client in turn. (So each comes to
// move alone from everywhere on, and P11 is seen to.)
func (s *search) on(t *testing.T, p *pages, clients []*client, now int) {
	key := stateOf(p, clients)
	if s.met[key] {
		return
	}
	s.met[key] = true
	if p.count() > 1+3*s.puts {
		t.Fatalf("P12: %d pages behind %d Puts", p.count(), s.puts)
	}
	moved := false
	for i, c := range clients {
		if c.ended {
			continue
		}
		moved = true
		q, others := p.copied(), slices.Clone(clients)
		others[i] = c.clone()
		others[i].move(t, q, now)
		s.missed = max(s.missed, others[i].missed)
		s.on(t, q, others, now+1)
	}
	if !moved {
		s.end(t, p, clients)
	}
}

// stateOf tells apart whatever may go on in another way, or be seen to be wrong later on.
func stateOf(p *pages, clients []*client) string {
	var b []byte
	for i := range p.texts {
		if p.used[i] {
			b = append(b, p.texts[i]...)
			b = strconv.AppendInt(append(b, '/'), int64(p.versions[i]), 10)
		}
	}
	for _, c := range clients {
		b = strconv.AppendInt(append(b, '\n'), int64(c.vain), 10)
		b = append(append(b, ' '), c.frame...)
		if c.ended {
			continue
		}
		b = strconv.AppendInt(b, int64(c.took), 10)
		for _, m := range c.maps {
			if c.op.Kind == api.Scan {
				b = fmt.Append(b, m)
				continue
			}
			value, has := m[c.op.Key]
			b = strconv.AppendBool(strconv.AppendInt(b, int64(value), 10), has)
		}
	}
	return string(b)
}

// end is what must hold when no operation is under way.
func (s *search) end(t *testing.T, p *pages, clients []*client) {
	t.Helper()
	s.ends++
	vain := 0
	for _, c := range clients {
		vain += c.vain
		if c.answer.Err != api.OK {
			s.full++
		}
	}
	if vain > 0 {
		s.vain++
		checkReach(t, p)
		return
	}
	checkQuick(t, p)
}

// checkSearches goes to everything to which each group of operations can lead, with so many pages
// free; searches that are too plain show nothing.
func checkSearches(t *testing.T, keys []int, free []int, groups [][]api.Op, states, missed int) {
	t.Helper()
	p := after(t, keys...)
	all, most, vain, full := 0, 0, 0, 0
	for _, count := range free {
		for _, ops := range groups {
			q := p.copied()
			// As many Puts may have been begun as make the third sentence of P12 hold of these pages.
			q.leave(count)
			s := &search{}
			s.from(t, q, max(len(keys), q.count()/3), ops...)
			all, most, vain, full = all+len(s.met), max(most, s.missed), vain+s.vain, full+s.full
		}
	}
	if all < states || most < missed || (len(free) > 1 && (vain == 0 || full == 0)) {
		t.Errorf("only %d states, at most %d Swaps not Done of one operation, %d times in vain, %d times full", all, most, vain, full)
	}
}

func TestEveryWayToSplitTheFirstLeaf(t *testing.T) {
	t.Parallel()
	checkSearches(t, tens(5), []int{63, 0, 1, 2, 3, 4}, [][]api.Op{
		{put(5, 1), put(35, 2), put(60, 3)},
		{put(35, 1), put(35, 2), drop(35)},
		{put(35, 1), put(60, 2), drop(30)},
		{put(35, 1), put(30, 2), get(35)},
		{put(35, 1), put(60, 2), scan(1, 9999)},
	}, 15000, 2)
	checkSearches(t, tens(5), []int{2, 3}, [][]api.Op{{put(1, 1), put(2, 2), put(3, 3), put(60, 4)}}, 5000, 2)
}

func TestEveryWayToSplitALeaf(t *testing.T) {
	t.Parallel()
	checkSearches(t, tens(8), []int{63, 0, 1, 2, 3}, [][]api.Op{
		{put(85, 1), put(90, 2), put(65, 3)},
		{put(85, 1), put(85, 2), drop(85)},
		{put(85, 1), put(65, 2), drop(80)},
		{put(85, 1), put(80, 2), get(80)},
		{put(85, 1), put(90, 2), scan(60, 9999)},
	}, 10000, 2)
}

// The root has six children, of which the first and the last are full.
func TestEveryWayToSplitTheRoot(t *testing.T) {
	t.Parallel()
	checkSearches(t, append(tens(20), 11, 12), []int{63, 0, 1, 2, 3, 4, 5}, [][]api.Op{
		{put(13, 1), put(205, 2)},
		{put(205, 1), put(165, 2)},
		{put(13, 1), put(205, 2), get(200)},
	}, 5000, 1)
	checkSearches(t, append(tens(20), 11, 12), []int{63}, [][]api.Op{{put(13, 1), put(205, 2), put(210, 3)}}, 10000, 1)
}

// Level 1 has a full node below a root that has room, and below one that has none.
func TestEveryWayToSplitAnInnerNode(t *testing.T) {
	t.Parallel()
	for _, count := range []int{32, 80} {
		p := after(t, tens(count)...)
		way := p.wayTo(t, 9999)
		if len(way) != 3 || len(p.node(t, way[1]).Keys) != 6 || len(p.node(t, way[2]).Keys) != 5 || (count == 80) != (len(p.node(t, 0).Keys) == 6) {
			t.Fatalf("the test's own pages: %q", p.texts)
		}
		last := 10 * count
		checkSearches(t, tens(count), []int{63, 0, 1, 2, 3, 4, 5}, [][]api.Op{
			{put(last+1, 1), put(last+2, 2)},
			{put(last+1, 1), put(last-1, 2), get(last)},
		}, 5000, 1)
		checkSearches(t, tens(count), []int{63}, [][]api.Op{{put(last+1, 1), put(last+2, 2), put(last+3, 3)}}, 10000, 2)
	}
}
