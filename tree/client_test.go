package tree

import (
	"maps"
	"slices"
	"testing"

	"sapling/api"
	"sapling/page"
)

// client is an operation under way, and all that it did.
type client struct {
	op       api.Op
	frame    string
	asks     []api.Ask
	times    []int         // when each access was
	maps     []map[int]int // what the leaves had ahead of each access
	versions [64]int
	knows    [64]bool // whether the operation has met the page, so that P7 lets it swap
	missed   int      // Swaps that were not Done
	made     int      // pages that Fresh gave
	vain     int      // Fresh, and no page was free
	took     int      // the access at which the leaves came to have something else; -1: none
	ended    bool
	answer   api.Answer
}

func begin(t *testing.T, op api.Op) *client {
	t.Helper()
	frame, err := Begin(op)
	if err != api.OK {
		t.Fatalf("P6: Begin(%+v): %d", op, err)
	}
	return &client{op: op, frame: frame, took: -1}
}

// clone shares nothing with the client.
func (c *client) clone() *client {
	twin := *c
	twin.asks = slices.Clone(c.asks)
	twin.times = slices.Clone(c.times)
	twin.maps = slices.Clone(c.maps)
	return &twin
}

// move does the client's next access, and holds it against P6, P7, P9 and P10. No test has others at
// work so long that an operation would need a thousand accesses. (Here and wherever else most of the
// time goes there is no t.Helper: it takes longer than all the rest.)
func (c *client) move(t *testing.T, p *pages, now int) {
	ask, err := Next(c.frame)
	if err != api.OK {
		t.Fatalf("P6: %+v: Next(%q): %d", c.op, c.frame, err)
	}
	if len(c.asks) == 1000 {
		t.Fatalf("P11: %+v does not end: %+v", c.op, c.asks[990:])
	}
	if len(c.asks) == 0 && ask != (api.Ask{Kind: api.Read}) {
		t.Fatalf("P6: %+v begins with %+v", c.op, ask)
	}
	if fault := c.askFault(p, ask); fault != "" {
		t.Fatalf("P7: %+v: %+v: %s", c.op, ask, fault)
	}
	c.maps = append(c.maps, p.content(t))
	reply := p.act(ask)
	c.learn(ask, reply)
	c.asks = append(c.asks, ask)
	c.times = append(c.times, now)
	if reply.Done || (ask.Kind == api.Fresh && reply.Page >= 0) {
		c.checkTurned(t, p)
	}
	next, answer, ended, err := Tell(c.frame, reply)
	if err != api.OK {
		t.Fatalf("P6: %+v: Tell(%q, %+v): %d", c.op, c.frame, reply, err)
	}
	if ended && next != "" {
		t.Fatalf("%+v has ended, and has the frame %q", c.op, next)
	}
	c.frame, c.answer, c.ended = next, answer, ended
	if ended {
		c.checkAnswer(t)
	}
}

// askFault tells where P7 does not hold; empty: it does.
func (c *client) askFault(p *pages, ask api.Ask) string {
	if ask.Kind != api.Read && c.op.Kind != api.Put && c.op.Kind != api.Drop {
		return "it may only read"
	}
	if ask.Kind != api.Read {
		_, err := page.Unpack(ask.Text)
		if err != api.OK {
			return "the text is no right node's"
		}
	}
	switch ask.Kind {
	case api.Read:
		if ask.Page < 0 || ask.Page > 63 || !p.used[ask.Page] {
			return "the page is free"
		}
	case api.Swap:
		if ask.Page < 0 || ask.Page > 63 || !c.knows[ask.Page] {
			return "the page was never read"
		}
		if ask.Version != c.versions[ask.Page] {
			return "the page had another version when it was last read"
		}
	case api.Fresh:
	default:
		return "there is no such access"
	}
	return ""
}

func (c *client) learn(ask api.Ask, reply api.Reply) {
	switch {
	case ask.Kind == api.Read:
		c.versions[ask.Page], c.knows[ask.Page] = reply.Version, true
	case ask.Kind == api.Swap && reply.Done:
		c.versions[ask.Page] = ask.Version + 1
	case ask.Kind == api.Swap:
		c.missed++
	case ask.Kind == api.Fresh && reply.Page >= 0:
		c.versions[reply.Page], c.knows[reply.Page] = 0, true
		c.made++
	case ask.Kind == api.Fresh:
		c.vain++
	}
}

// checkTurned: behind an access that turned a page the tree stands, and the leaves have what they
// had, or, once, what the operation makes of it.
func (c *client) checkTurned(t *testing.T, p *pages) {
	if p.strict {
		if fault := p.fault(); fault != "" {
			t.Fatalf("P9, P10: %+v: behind %+v: %s: %q", c.op, c.asks[len(c.asks)-1], fault, p.texts)
		}
	}
	last := len(c.maps) - 1
	before, after := c.maps[last], p.content(t)
	if maps.Equal(before, after) {
		return
	}
	want := maps.Clone(before)
	c.applyTo(want)
	if !maps.Equal(after, want) || c.took >= 0 {
		t.Fatalf("P9: %+v: behind %+v the leaves have %v, and had %v", c.op, c.asks[last], after, before)
	}
	c.took = last
}

// checkAnswer holds an answer against what the leaves had at its access (P8; of a Scan P14), and
// against the first sentence of P12.
func (c *client) checkAnswer(t *testing.T) {
	if c.answer.Err != api.OK {
		if c.vain == 0 || c.took >= 0 || c.op.Kind != api.Put || !sameAnswer(c.answer, api.Answer{Err: api.ErrFull}) {
			t.Fatalf("P12: %+v = %+v, %d times in vain, took effect at %d", c.op, c.answer, c.vain, c.took)
		}
		return
	}
	if c.answer.Point < 0 || c.answer.Point >= len(c.asks) {
		t.Fatalf("P8: %+v has %d accesses, and took effect at %d", c.op, len(c.asks), c.answer.Point)
	}
	if c.op.Kind == api.Scan {
		c.checkPieces(t)
		return
	}
	value, found := c.maps[c.answer.Point][c.op.Key]
	if !sameAnswer(c.answer, api.Answer{Found: found, Value: value, Point: c.answer.Point}) {
		t.Fatalf("P8: %+v = %+v, the map had %d, %v", c.op, c.answer, value, found)
	}
	// An operation that does nothing to the leaves may not have had anything to do.
	idle := c.op.Kind == api.Get || (c.op.Kind == api.Drop && !found) || (c.op.Kind == api.Put && found && value == c.op.Value)
	if idle != (c.took < 0) || (!idle && c.took != c.answer.Point) {
		t.Fatalf("P8: %+v = %+v, took effect at %d", c.op, c.answer, c.took)
	}
}

// checkPieces holds each piece of a Scan against the map at its access.
func (c *client) checkPieces(t *testing.T) {
	low, last, seen := c.op.Key, -1, 0
	for _, cut := range c.answer.Cuts {
		if cut.Below <= low || cut.Point <= last || cut.Point >= len(c.asks) {
			t.Fatalf("P14: %+v: %+v", c.op, c.answer)
		}
		m := c.maps[cut.Point]
		for key := low; key < cut.Below; key++ {
			if value, has := m[key]; has {
				if seen >= len(c.answer.Keys) || c.answer.Keys[seen] != key || c.answer.Vals[seen] != value {
					t.Fatalf("P14: %+v = %+v, has not seen %d with %d", c.op, c.answer, key, value)
				}
				seen++
			}
		}
		low, last = cut.Below, cut.Point
	}
	if seen != len(c.answer.Keys) || seen != c.answer.Value || c.answer.Found != (seen > 0) || seen > 12 {
		t.Fatalf("P14: %+v = %+v", c.op, c.answer)
	}
	if last != c.answer.Point || (seen < 12 && low != c.op.Value+1) || (seen == 12 && low != c.answer.Keys[11]+1) {
		t.Fatalf("P14: %+v = %+v", c.op, c.answer)
	}
}

// finish moves the client alone, to its end.
func (c *client) finish(t *testing.T, p *pages, now int) {
	for n := 0; !c.ended; n++ {
		c.move(t, p, now+n)
	}
}

// alone runs an operation to its end, and tells all its accesses as well.
func alone(t *testing.T, p *pages, op api.Op) (api.Answer, []api.Ask) {
	t.Helper()
	c := begin(t, op)
	c.finish(t, p, 0)
	return c.answer, c.asks
}

// effects are the Gets, Puts and Drops that took effect, in the order of the accesses at which they
// did: of those that have ended the Points name it.
func effects(clients []*client) []*client {
	var list []*client
	for _, c := range clients {
		if c.op.Kind != api.Scan && c.answer.Err == api.OK && (c.ended || c.took >= 0) {
			list = append(list, c)
		}
	}
	slices.SortFunc(list, func(a, b *client) int { return a.effect() - b.effect() })
	return list
}

// effect is the time of the access at which the operation took effect.
func (c *client) effect() int {
	if c.ended {
		return c.times[c.answer.Point]
	}
	return c.times[c.took]
}

// applyTo does to the map what the operation does.
func (c *client) applyTo(m map[int]int) {
	switch c.op.Kind {
	case api.Put:
		m[c.op.Key] = c.op.Value
	case api.Drop:
		delete(m, c.op.Key)
	}
}

// checkOrder holds the answers against P8 once more, without a look at the pages; it gives the map
// behind them all.
func checkOrder(t *testing.T, before map[int]int, clients []*client) map[int]int {
	t.Helper()
	m := maps.Clone(before)
	for _, c := range effects(clients) {
		value, found := m[c.op.Key]
		want := api.Answer{Found: found, Value: value, Point: c.answer.Point}
		if c.ended && !sameAnswer(c.answer, want) {
			t.Fatalf("P8: %+v at %v = %+v, want %+v, from %v", c.op, c.times, c.answer, want, before)
		}
		c.applyTo(m)
	}
	return m
}

// content is what the leaves have that P9 goes along. Nobody writes into it.
func (p *pages) content(t *testing.T) map[int]int {
	if p.known != nil && p.known.texts == p.texts {
		return p.known.content
	}
	m := map[int]int{}
	low := 1
	for _, leaf := range p.leaves(t) {
		for i, key := range leaf.Keys {
			if key < low {
				t.Fatalf("P9: the key %d does not rise, in %q", key, p.texts)
			}
			m[key], low = leaf.Vals[i], key+1
		}
		low = leaf.High
	}
	p.known = &known{p.texts, m}
	return m
}

// checkContent holds the leaves against the map.
func checkContent(t *testing.T, p *pages, want map[int]int) {
	t.Helper()
	if got := p.content(t); !maps.Equal(got, want) {
		t.Fatalf("P9: the leaves have %v, want %v, in %q", got, want, p.texts)
	}
}

// checkShape: nothing but what leaves hold may differ.
func checkShape(t *testing.T, before, after *pages) {
	t.Helper()
	for i := range before.texts {
		if before.texts[i] == after.texts[i] && before.used[i] == after.used[i] {
			continue
		}
		was, is := before.node(t, i), after.node(t, i)
		if was.Level != 0 || is.Level != 0 || was.Link != is.Link || was.High != is.High {
			t.Fatalf("page %d was %q and is %q", i, before.texts[i], after.texts[i])
		}
	}
}
