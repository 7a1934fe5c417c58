package tree

import (
	"math"
	"math/rand/v2"
	"testing"

	"sapling/api"
)

// orders goes through all orders in which the clients' accesses can come.
type orders struct {
	before *pages
	count  int
	missed int // Swaps that were not Done
	most   int // of one operation
}

func (o *orders) all(t *testing.T, p *pages, clients []*client, now int) {
	t.Helper()
	moved := false
	for i, c := range clients {
		if c.ended {
			continue
		}
		moved = true
		pages, twins := p.copied(), make([]*client, len(clients))
		for j := range clients {
			twins[j] = clients[j].clone()
		}
		twins[i].move(t, pages, now)
		o.all(t, pages, twins, now+1)
	}
	if moved {
		return
	}
	o.count++
	after := checkOrder(t, o.before.content(t), clients)
	checkContent(t, p, after)
	checkShape(t, o.before, p)
	for _, c := range clients {
		o.missed += c.missed
		o.most = max(o.most, c.missed)
	}
}

// groups are all choices of some of the operations, the same one more than once too.
func groups(ops []api.Op, size int) [][]api.Op {
	if size == 0 {
		return [][]api.Op{nil}
	}
	var list [][]api.Op
	for i, op := range ops {
		for _, rest := range groups(ops[i:], size-1) {
			list = append(list, append([]api.Op{op}, rest...))
		}
	}
	return list
}

func (o *orders) of(t *testing.T, ops []api.Op) {
	t.Helper()
	var clients []*client
	for _, op := range ops {
		clients = append(clients, begin(t, op))
	}
	o.all(t, o.before.copied(), clients, 0)
}

// check: orders that are too few or too plain show nothing.
func (o *orders) check(t *testing.T, count, most int) {
	t.Helper()
	if o.count < count || o.missed < count/10 || o.most < most {
		t.Errorf("only %d orders, %d Swaps that were not Done, at most %d of one operation", o.count, o.missed, o.most)
	}
}

// One leaf, three operations: every choice of them, in every order of their accesses.
func TestEveryOrderOnOneLeaf(t *testing.T) {
	t.Parallel()
	ops := []api.Op{get(7), put(7, 1), put(7, 2), drop(7), put(8, 3), drop(9), scan(1, 9999)}
	for _, p := range []*pages{laid("0------"), oneLeaf(), laid("0------" + "00090009")} {
		o := &orders{before: p}
		for _, group := range groups(ops, 3) {
			o.of(t, group)
		}
		o.check(t, 3000, 2)
	}
}

// Several levels, two operations at a time, at keys of one leaf and of two; and once three.
func TestEveryOrderOnTrees(t *testing.T) {
	t.Parallel()
	ops := []api.Op{get(9), put(9, 1), drop(9), put(8, 2), put(12, 3), put(12, 4), drop(12), get(12), drop(13), scan(9, 12)}
	for _, p := range []*pages{linkedLeaf(), linkedAll()} {
		o := &orders{before: p}
		for _, group := range groups(ops, 2) {
			o.of(t, group)
		}
		o.check(t, 1000, 1)
	}
	o := &orders{before: linkedLeaf()}
	o.of(t, []api.Op{put(7, 3), put(8, 4), drop(7)})
	o.check(t, 3000, 2)
}

// mix is many clients at work at once, of whom some stop for good.
type mix struct {
	r      *rand.Rand
	p      *pages
	keys   []int // those that may be put
	others []int // those that may be looked for and dropped, beside them
	stop   int   // of so many accesses, one is its client's last; 0: none is
	fill   bool  // whether most of what is begun are Puts
	under  []*client
	all    []*client
	puts   int // that were begun
	now    int
}

func (m *mix) op() api.Op {
	key := m.keys[m.r.IntN(len(m.keys))]
	if m.fill && m.r.IntN(3) > 0 {
		return put(key, m.r.IntN(10000))
	}
	switch m.r.IntN(8) {
	case 0:
		return get(key)
	case 1, 2, 3:
		return put(key, m.r.IntN(10000))
	case 4, 5:
		return drop(key)
	case 6:
		other := m.others[m.r.IntN(len(m.others))]
		return []api.Op{get(other), drop(other)}[m.r.IntN(2)]
	}
	to := m.others[m.r.IntN(len(m.others))]
	return scan(min(key, to), max(key, to))
}

// run begins operations and moves clients in any order, until so many operations were begun.
func (m *mix) run(t *testing.T, begun, atOnce int) {
	t.Helper()
	for len(m.all) < begun || len(m.under) > 0 {
		if len(m.all) < begun && (len(m.under) == 0 || (len(m.under) < atOnce && m.r.IntN(3) == 0)) {
			c := begin(t, m.op())
			m.under, m.all = append(m.under, c), append(m.all, c)
			if c.op.Kind == api.Put {
				m.puts++
			}
		}
		i := m.r.IntN(len(m.under))
		c := m.under[i]
		// Some move once, some far: so that others come late with what they know.
		for n := []int{1, 1, 1, 2, 5}[m.r.IntN(5)]; n > 0 && !c.ended; n-- {
			c.move(t, m.p, m.now)
			m.now++
			if m.p.strict && m.p.count() > 1+3*m.puts {
				t.Fatalf("P12: %d pages behind %d Puts", m.p.count(), m.puts)
			}
		}
		if m.r.IntN(50) == 0 {
			m.checkStuck(t)
		}
		if c.ended || (m.stop > 0 && m.r.IntN(m.stop) == 0) {
			m.under = append(m.under[:i], m.under[i+1:]...)
		}
	}
}

// checkStuck is P11: from now on any one of them moves alone, those that have stopped too.
func (m *mix) checkStuck(t *testing.T) {
	c := m.all[m.r.IntN(len(m.all))].clone()
	p := m.p.copied()
	for n := 0; !c.ended; n++ {
		if n == 1000 {
			t.Fatalf("P11: %+v does not end", c.op)
		}
		c.move(t, p, m.now+n)
	}
}

// tally counts what happened, so that a mix that is too plain is seen.
type tally struct {
	missed, mostMissed, put, putAgain, dropped, droppedNothing, stopped int
}

func (y *tally) add(clients []*client) {
	for _, c := range clients {
		y.missed += c.missed
		y.mostMissed = max(y.mostMissed, c.missed)
		switch {
		case !c.ended:
			y.stopped++
		case c.op.Kind == api.Put && c.answer.Found:
			y.putAgain++
		case c.op.Kind == api.Put:
			y.put++
		case c.op.Kind == api.Drop && c.answer.Found:
			y.dropped++
		case c.op.Kind == api.Drop:
			y.droppedNothing++
		}
	}
}

func (y *tally) check(t *testing.T) {
	t.Helper()
	if y.missed < 1000 || y.mostMissed < 4 || min(y.put, y.putAgain, y.dropped, y.droppedNothing) < 1000 || y.stopped < 50 {
		t.Errorf("the mix is too plain: %+v", *y)
	}
}

// checkMix runs a mix, and holds all that came of it against one map.
func checkMix(t *testing.T, m *mix, y *tally, begun, atOnce int) {
	t.Helper()
	before := m.p.copied()
	m.run(t, begun, atOnce)
	after := checkOrder(t, before.content(t), m.all)
	checkContent(t, m.p, after)
	checkShape(t, before, m.p)
	y.add(m.all)
}

func TestMixedOnOneLeaf(t *testing.T) {
	t.Parallel()
	r := rand.New(rand.NewPCG(7, 8))
	y := &tally{}
	for round := range 200 {
		p := laid("0------")
		p.versions[0] = []int{0, r.IntN(10000), math.MaxInt - 1000}[round%3]
		keys := []int{1, 2, 5000, 9998, 9999}[:1+round%5]
		checkMix(t, &mix{r: r, p: p, keys: keys, others: []int{1, 3, 4999, 9997, 9999}, stop: 150}, y, 200, 2+round%9)
	}
	y.check(t)
}

func TestMixedOnGrownPages(t *testing.T) {
	t.Parallel()
	r := rand.New(rand.NewPCG(9, 10))
	y := &tally{}
	for round := range 200 {
		p := grown(t, r, round%10, []int{30, 120, 10000}[round%3])
		for i := range p.versions {
			p.versions[i] = r.IntN(1000)
		}
		leaves := p.leaves(t)
		keys := roomy(r, leaves)
		// Few keys that are near each other, so that clients meet.
		first := r.IntN(len(keys))
		keys = keys[first:min(first+2+r.IntN(12), len(keys))]
		checkMix(t, &mix{r: r, p: p, keys: keys, others: marksOf(leaves), stop: 150}, y, 200, 2+r.IntN(12))
	}
	y.check(t)
}

// splits counts what happened in mixes with splits.
type splits struct {
	levels                  [6]int // mixes that ended with a tree of so many
	full, late, quick       int
	missed, halfWay, spared int
}

func (y *splits) add(t *testing.T, m *mix) (vain, stopped int) {
	t.Helper()
	y.levels[m.p.levels(t)]++
	for _, c := range m.all {
		y.missed += c.missed
		vain += c.vain
		if c.answer.Err == api.ErrFull {
			y.full++
		}
		if c.vain > 0 && c.took >= 0 {
			y.late++
		}
		if c.made > 0 && c.answer.Found {
			y.spared++
		}
		if !c.ended {
			stopped++
			if c.took >= 0 {
				y.halfWay++
			}
		}
	}
	return vain, stopped
}

// From the beginning, with splits, until the pages run out or nearly so.
func TestMixedSplits(t *testing.T) {
	t.Parallel()
	r := rand.New(rand.NewPCG(15, 16))
	y := &splits{}
	for round := range 300 {
		span := []int{8, 20, 60, 200, 9999}[round%5]
		keys := r.Perm(span)
		for i := range keys {
			keys[i]++
		}
		keys = keys[:min(span, 300)]
		m := &mix{r: r, p: begun(), keys: keys, others: []int{1, 2, span/2 + 1, span, 9999},
			stop: []int{0, 0, 30, 100}[round%4], fill: round%6 < 4}
		m.run(t, []int{30, 150, 450}[round%3], []int{3, 9, 40}[r.IntN(3)])
		after := checkOrder(t, map[int]int{}, m.all)
		checkContent(t, m.p, after)
		vain, stopped := y.add(t, m)
		if vain == 0 && stopped == 0 {
			y.quick++
			checkQuick(t, m.p)
		}
		checkReach(t, m.p)
	}
	if min(y.levels[2], y.levels[3], y.levels[4], y.halfWay, y.spared) < 10 || min(y.full, y.quick, y.missed) < 100 || y.late < 3 {
		t.Errorf("the mixes are too plain: %+v", *y)
	}
}
