package tree

import (
	"maps"
	"slices"
	"testing"

	"sapling/api"
	"sapling/page"
)

// client is an operation under way, and all that it did.
type client struct {
	op       api.Op
	frame    string
	asks     []api.Ask
	times    []int // when each access was
	versions [64]int
	knows    [64]bool // whether the operation has met the page, so that P7 lets it swap
	missed   int      // Swaps that were not Done
	ended    bool
	answer   api.Answer
}

func begin(t *testing.T, op api.Op) *client {
	t.Helper()
	frame, err := Begin(op)
	if err != api.OK {
		t.Fatalf("P6: Begin(%+v): %d", op, err)
	}
	return &client{op: op, frame: frame}
}

// clone shares nothing with the client.
func (c *client) clone() *client {
	twin := *c
	twin.asks = slices.Clone(c.asks)
	twin.times = slices.Clone(c.times)
	return &twin
}

// move does the client's next access, and holds it against P6 and P7. No test has others at work so
// long that an operation would need a thousand accesses.
func (c *client) move(t *testing.T, p *pages, now int) {
	t.Helper()
	ask, err := Next(c.frame)
	if err != api.OK {
		t.Fatalf("P6: %+v: Next(%q): %d", c.op, c.frame, err)
	}
	if len(c.asks) == 1000 {
		t.Fatalf("%+v does not end: %+v", c.op, c.asks[990:])
	}
	if len(c.asks) == 0 && ask != (api.Ask{Kind: api.Read}) {
		t.Fatalf("P6: %+v begins with %+v", c.op, ask)
	}
	if fault := c.askFault(p, ask); fault != "" {
		t.Fatalf("P7: %+v: %+v: %s", c.op, ask, fault)
	}
	reply := p.act(ask)
	c.learn(ask, reply)
	c.asks = append(c.asks, ask)
	c.times = append(c.times, now)
	next, answer, ended, err := Tell(c.frame, reply)
	if err != api.OK {
		t.Fatalf("P6: %+v: Tell(%q, %+v): %d", c.op, c.frame, reply, err)
	}
	if ended && next != "" {
		t.Fatalf("%+v has ended, and has the frame %q", c.op, next)
	}
	c.frame, c.answer, c.ended = next, answer, ended
}

// askFault tells where P7 does not hold; empty: it does.
func (c *client) askFault(p *pages, ask api.Ask) string {
	if ask.Kind != api.Read && c.op.Kind != api.Put && c.op.Kind != api.Drop {
		return "it may only read"
	}
	if ask.Kind != api.Read {
		_, err := page.Unpack(ask.Text)
		if err != api.OK {
			return "the text is no right node's"
		}
	}
	switch ask.Kind {
	case api.Read:
		if ask.Page < 0 || ask.Page > 63 || !p.used[ask.Page] {
			return "the page is free"
		}
	case api.Swap:
		if ask.Page < 0 || ask.Page > 63 || !c.knows[ask.Page] {
			return "the page was never read"
		}
		if ask.Version != c.versions[ask.Page] {
			return "the page had another version when it was last read"
		}
	case api.Fresh:
	default:
		return "there is no such access"
	}
	return ""
}

func (c *client) learn(ask api.Ask, reply api.Reply) {
	switch {
	case ask.Kind == api.Read:
		c.versions[ask.Page], c.knows[ask.Page] = reply.Version, true
	case ask.Kind == api.Swap && reply.Done:
		c.versions[ask.Page] = ask.Version + 1
	case ask.Kind == api.Swap:
		c.missed++
	case ask.Kind == api.Fresh && reply.Page >= 0:
		c.versions[reply.Page], c.knows[reply.Page] = 0, true
	}
}

// finish moves the client alone, to its end.
func (c *client) finish(t *testing.T, p *pages, now int) {
	t.Helper()
	for n := 0; !c.ended; n++ {
		c.move(t, p, now+n)
	}
}

// alone runs an operation to its end, and tells all its accesses as well.
func alone(t *testing.T, p *pages, op api.Op) (api.Answer, []api.Ask) {
	t.Helper()
	c := begin(t, op)
	c.finish(t, p, 0)
	return c.answer, c.asks
}

// effects are the Gets, Puts and Drops that have ended, in the order of the accesses that their Points name.
func effects(t *testing.T, clients []*client) []*client {
	t.Helper()
	var list []*client
	for _, c := range clients {
		if !c.ended {
			continue
		}
		if c.answer.Point < 0 || c.answer.Point >= len(c.times) {
			t.Fatalf("P8: %+v has %d accesses, and took effect at %d", c.op, len(c.times), c.answer.Point)
		}
		if c.op.Kind != api.Scan {
			list = append(list, c)
		}
	}
	slices.SortFunc(list, func(a, b *client) int { return a.effect() - b.effect() })
	return list
}

// effect is the time of the access that the Point names.
func (c *client) effect() int {
	return c.times[c.answer.Point]
}

// applyTo does to the map what the operation does.
func (c *client) applyTo(m map[int]int) {
	switch {
	case c.answer.Err != api.OK:
	case c.op.Kind == api.Put:
		m[c.op.Key] = c.op.Value
	case c.op.Kind == api.Drop:
		delete(m, c.op.Key)
	}
}

// checkOrder holds the answers against P8, and those of Scans against P14; it gives the map behind them all.
func checkOrder(t *testing.T, before map[int]int, clients []*client) map[int]int {
	t.Helper()
	m := maps.Clone(before)
	order := effects(t, clients)
	for _, c := range order {
		value, found := m[c.op.Key]
		want := api.Answer{Found: found, Value: value, Point: c.answer.Point}
		if !sameAnswer(c.answer, want) {
			t.Fatalf("P8: %+v at %v = %+v, want %+v, from %v", c.op, c.times, c.answer, want, before)
		}
		c.applyTo(m)
	}
	for _, c := range clients {
		if c.ended && c.op.Kind == api.Scan {
			checkPieces(t, before, order, c)
		}
	}
	return m
}

// checkPieces holds each piece of a Scan against the map at its access.
func checkPieces(t *testing.T, before map[int]int, order []*client, scan *client) {
	t.Helper()
	low, last, seen := scan.op.Key, -1, 0
	for _, cut := range scan.answer.Cuts {
		if cut.Below <= low || cut.Point <= last || cut.Point >= len(scan.times) {
			t.Fatalf("P14: %+v: %+v", scan.op, scan.answer)
		}
		m := maps.Clone(before)
		for _, c := range order {
			if c.effect() < scan.times[cut.Point] {
				c.applyTo(m)
			}
		}
		for key := low; key < cut.Below; key++ {
			if value, has := m[key]; has {
				if seen >= len(scan.answer.Keys) || scan.answer.Keys[seen] != key || scan.answer.Vals[seen] != value {
					t.Fatalf("P14: %+v = %+v, has not seen %d with %d", scan.op, scan.answer, key, value)
				}
				seen++
			}
		}
		low, last = cut.Below, cut.Point
	}
	if seen != len(scan.answer.Keys) || seen != scan.answer.Value || last != scan.answer.Point || (low != scan.op.Value+1 && seen != 12) {
		t.Fatalf("P14: %+v = %+v", scan.op, scan.answer)
	}
}

// content is what the leaves have that P9 goes along.
func (p *pages) content(t *testing.T) map[int]int {
	t.Helper()
	m := map[int]int{}
	low := 1
	for _, leaf := range p.leaves(t) {
		for i, key := range leaf.Keys {
			if key < low {
				t.Fatalf("P9: the key %d does not rise, in %q", key, p.texts)
			}
			m[key], low = leaf.Vals[i], key+1
		}
		low = leaf.High
	}
	return m
}

// checkContent holds the leaves against the map.
func checkContent(t *testing.T, p *pages, want map[int]int) {
	t.Helper()
	if got := p.content(t); !maps.Equal(got, want) {
		t.Fatalf("P9: the leaves have %v, want %v, in %q", got, want, p.texts)
	}
}

// checkShape: nothing but what leaves hold may differ.
func checkShape(t *testing.T, before, after *pages) {
	t.Helper()
	for i := range before.texts {
		if before.texts[i] == after.texts[i] && before.used[i] == after.used[i] {
			continue
		}
		was, is := before.node(t, i), after.node(t, i)
		if was.Level != 0 || is.Level != 0 || was.Link != is.Link || was.High != is.High {
			t.Fatalf("page %d was %q and is %q", i, before.texts[i], after.texts[i])
		}
	}
}
