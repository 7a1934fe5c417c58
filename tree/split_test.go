package tree

import (
	"fmt"
	"math/rand/v2"
	"slices"
	"testing"

	"sapling/api"
)

// after runs these Puts one behind the other, from the beginning: each key is its own value.
func after(t *testing.T, keys ...int) *pages {
	t.Helper()
	p := begun()
	for _, key := range keys {
		alone(t, p, put(key, key))
	}
	return p
}

// tens are count keys, 10 apart.
func tens(count int) []int {
	var keys []int
	for i := range count {
		keys = append(keys, 10*(i+1))
	}
	return keys
}

func kindsOf(asks []api.Ask) []int {
	var kinds []int
	for _, ask := range asks {
		kinds = append(kinds, ask.Kind)
	}
	return kinds
}

func (p *pages) levels(t *testing.T) int {
	t.Helper()
	return p.node(t, 0).Level + 1
}

// checkQuick is P13, at the keys that matter.
func checkQuick(t *testing.T, p *pages) {
	t.Helper()
	levels := p.levels(t)
	for _, key := range marksOf(p.leaves(t)) {
		answer, asks := alone(t, p, get(key))
		if len(asks) != levels || answer.Point != levels-1 {
			t.Fatalf("P13: Get %d: %+v with %d accesses, of %d levels: %q", key, answer, len(asks), levels, p.texts)
		}
	}
}

// checkReach: whatever was not entered, a Get finds every key.
func checkReach(t *testing.T, p *pages) {
	t.Helper()
	leaves := p.leaves(t)
	for _, key := range marksOf(leaves) {
		checkGet(t, p, leaves, key)
	}
}

func TestDocumentsSixth(t *testing.T) {
	for key := 1; key <= 60; key++ {
		if key%10 == 0 && key < 60 {
			continue
		}
		p := after(t, tens(5)...)
		if p.count() != 1 || p.levels(t) != 1 {
			t.Fatalf("five keys: %q", p.texts)
		}
		answer, asks := alone(t, p, put(key, 7))
		if !slices.Equal(kindsOf(asks), []int{api.Read, api.Fresh, api.Fresh, api.Swap}) || asks[3].Page != 0 || asks[3].Version != 5 {
			t.Errorf("the document's sixth: %+v", asks)
		}
		if !sameAnswer(answer, api.Answer{Point: 3}) {
			t.Errorf("P8: a sixth: %+v", answer)
		}
		root := p.node(t, 0)
		if root.Level != 1 || len(root.Vals) != 2 || p.count() != 3 || p.versions[0] != 6 {
			t.Errorf("the document's sixth: %q", p.texts)
		}
		leaves := p.leaves(t)
		if len(leaves) != 2 || len(leaves[0].Keys) != 3 || len(leaves[1].Keys) != 3 {
			t.Errorf("two halves: %+v", leaves)
		}
		checkQuick(t, p)
	}
}

// A Put of a key that is there, and a Drop, into a full leaf: nothing is split.
func TestFullLeafWithKey(t *testing.T) {
	for _, op := range []api.Op{put(30, 7), put(10, 10), put(50, 0), drop(10), drop(50)} {
		p := after(t, tens(5)...)
		_, asks := alone(t, p, op)
		if !slices.Equal(kindsOf(asks), []int{api.Read, api.Swap}) || p.count() != 1 {
			t.Errorf("%+v in a full leaf: %+v", op, asks)
		}
	}
}

// A leaf that is not the root: its right half is made, it is swapped, and the half is entered above.
func TestSplitOfLeaf(t *testing.T) {
	p := after(t, tens(8)...)
	answer, asks := alone(t, p, put(90, 7))
	if !slices.Equal(kindsOf(asks), []int{api.Read, api.Read, api.Fresh, api.Swap, api.Read, api.Swap}) || answer.Point != 3 {
		t.Errorf("the split of a leaf: %+v, %+v", asks, answer)
	}
	if p.count() != 4 || len(p.node(t, 0).Vals) != 3 || p.levels(t) != 2 {
		t.Errorf("the split of a leaf: %q", p.texts)
	}
	checkQuick(t, p)
}

// The root has six children, and a seventh comes: it becomes the node above two others.
func TestSplitOfRoot(t *testing.T) {
	p := after(t, tens(20)...)
	if p.levels(t) != 2 || len(p.node(t, 0).Vals) != 6 || p.count() != 7 {
		t.Fatalf("the test's own pages: %q", p.texts)
	}
	answer, asks := alone(t, p, put(210, 7))
	want := []int{api.Read, api.Read, api.Fresh, api.Swap, api.Read, api.Fresh, api.Fresh, api.Swap}
	if !slices.Equal(kindsOf(asks), want) || answer.Point != 3 || asks[7].Page != 0 {
		t.Errorf("the split of the root: %+v, %+v", asks, answer)
	}
	if p.levels(t) != 3 || len(p.node(t, 0).Vals) != 2 || p.count() != 10 {
		t.Errorf("the split of the root: %q", p.texts)
	}
	checkQuick(t, p)
}

// A node of level 1 that is not the root has six children, and a seventh comes.
func TestSplitOfInnerNode(t *testing.T) {
	p := begun()
	for key := 10; key < 9990; key += 10 {
		answer, asks := alone(t, p, put(key, 7))
		want := []int{api.Read, api.Read, api.Read, api.Fresh, api.Swap, api.Read, api.Read, api.Fresh, api.Swap, api.Read, api.Swap}
		if slices.Equal(kindsOf(asks), want) && answer.Point == 4 {
			checkQuick(t, p)
			return
		}
	}
	t.Errorf("no node of level 1 was split: %q", p.texts)
}

// run is a series of operations, one behind the other, held against all of P7 to P14 but for P11,
// which move sees to.
type run struct {
	p        *pages
	puts     int  // that were begun
	in       int  // Puts that took effect and found nothing
	full     int  // that answered ErrFull
	vain     bool // whether one has asked for Fresh in vain
	lateVain bool // whether one has that took effect
	deepest  int  // the most levels of the tree
}

func (u *run) do(t *testing.T, op api.Op) *client {
	t.Helper()
	c := begin(t, op)
	if op.Kind == api.Put {
		u.puts++
	}
	for n := 0; !c.ended; n++ {
		c.move(t, u.p, n)
		if u.p.count() > 1+3*u.puts {
			t.Fatalf("P12: %d pages behind %d Puts", u.p.count(), u.puts)
		}
	}
	u.vain = u.vain || c.vain > 0
	u.lateVain = u.lateVain || (c.vain > 0 && c.took >= 0)
	switch {
	case c.answer.Err != api.OK:
		u.full++
		if u.in <= 60 {
			t.Fatalf("P12: ErrFull behind %d Puts that found nothing: %q", u.in, u.p.texts)
		}
	case op.Kind == api.Put && !c.answer.Found:
		u.in++
	}
	u.deepest = max(u.deepest, u.p.levels(t))
	return c
}

// check is what must hold when no operation is under way.
func (u *run) check(t *testing.T) {
	t.Helper()
	if u.vain {
		checkReach(t, u.p)
		return
	}
	checkQuick(t, u.p)
}

// Rising, falling and other orders of new keys, up to where the pages run out and far beyond.
func TestPutsAlone(t *testing.T) {
	t.Parallel()
	r := rand.New(rand.NewPCG(11, 12))
	for name, keys := range map[string][]int{
		"rising":        tens(400),
		"falling":       backward(tens(400)),
		"rising, near":  upward(400),
		"falling, near": backward(upward(400)),
		"inward":        inward(400),
		"outward":       backward(inward(400)),
		"random":        r.Perm(9999)[:400],
		"random, near":  r.Perm(400),
	} {
		u := &run{p: begun()}
		in := map[int]int{}
		for i, key := range keys {
			c := u.do(t, put(key+1, i))
			if c.answer.Err == api.OK {
				in[key+1] = i
			}
			if i%7 == 0 || i < 70 {
				u.check(t)
			}
		}
		u.check(t)
		checkContent(t, u.p, in)
		if u.full < 100 || u.p.count() != 64 || u.deepest < 4 {
			t.Errorf("%s: the pages did not run out: %s, %d pages", name, u, u.p.count())
		}
	}
}

func upward(count int) []int {
	var keys []int
	for i := range count {
		keys = append(keys, i)
	}
	return keys
}

func backward(keys []int) []int {
	list := slices.Clone(keys)
	slices.Reverse(list)
	return list
}

// inward are keys from both ends by turns.
func inward(count int) []int {
	var keys []int
	for i := range count / 2 {
		keys = append(keys, 10*i, 9990-10*i)
	}
	return keys
}

// Puts and Drops, one behind the other: at most 60 Puts that find nothing, never ErrFull, then on
// until the pages have run out, and beyond.
func TestPutsAndDropsAlone(t *testing.T) {
	t.Parallel()
	r := rand.New(rand.NewPCG(13, 14))
	full, lateVain := 0, 0
	for round := range 64 {
		u := &run{p: begun()}
		span := []int{20, 60, 200, 9999}[round%4]
		drops := []int{1, 5, 9, 10}[round/4%4]
		for i := range 500 {
			u.do(t, randomOp(t, r, u.p, span, drops))
			if i%40 == 0 {
				u.check(t)
			}
		}
		full += u.full
		if u.lateVain {
			lateVain++
		}
	}
	if full < 500 || lateVain < 1 {
		t.Errorf("the series are too plain: %d were full, %d in vain though in effect", full, lateVain)
	}
}

// randomOp is mostly a Put of a new key; the Drops, as many of twenty, are mostly of keys that are there.
func randomOp(t *testing.T, r *rand.Rand, p *pages, span, drops int) api.Op {
	t.Helper()
	key := 1 + r.IntN(span)
	switch roll := r.IntN(20); {
	case roll < drops:
		var keys []int
		for there := range p.content(t) {
			keys = append(keys, there)
		}
		slices.Sort(keys)
		if len(keys) > 0 && r.IntN(8) > 0 {
			key = keys[r.IntN(len(keys))]
		}
		return drop(key)
	case roll == 19:
		return scan(key, key+r.IntN(9999-key+1))
	case roll == 18:
		return get(key)
	}
	return put(key, r.IntN(10000))
}

// 60 Puts that take as many pages as they can: each goes to a leaf that is nearest to its split.
func TestDearestPuts(t *testing.T) {
	t.Parallel()
	for _, last := range []bool{false, true} {
		u := &run{p: begun()}
		for u.in < 60 {
			u.do(t, put(nextToFullest(t, u.p, last), 7))
			u.check(t)
		}
		if u.full > 0 || u.vain {
			t.Errorf("P12: %s", u)
		}
	}
}

// nextToFullest is a new key in the leaf that has most, the first or the last of these.
func nextToFullest(t *testing.T, p *pages, last bool) int {
	t.Helper()
	best, most, low := 1, -1, 1
	for _, leaf := range p.leaves(t) {
		end := min(leaf.High, 10000)
		if len(leaf.Keys) > most || (last && len(leaf.Keys) == most) {
			for key := (low + end) / 2; key < end; key++ {
				if !slices.Contains(leaf.Keys, key) {
					best, most = key, len(leaf.Keys)
					break
				}
			}
		}
		low = leaf.High
	}
	return best
}

// With few pages left: a Put takes effect if it finds what its leaf takes, and else not at all.
func TestPagesRunOut(t *testing.T) {
	for free := range 5 {
		p := after(t, tens(5)...)
		p.leave(free)
		answer, asks := alone(t, p, put(60, 7))
		if (answer.Err == api.OK) != (free >= 2) || p.count() != 64-max(free-2, 0) {
			t.Errorf("P12: a sixth with %d pages free: %+v, %+v", free, answer, asks)
		}
		p = after(t, tens(8)...)
		p.leave(free)
		answer, asks = alone(t, p, put(90, 7))
		if (answer.Err == api.OK) != (free >= 1) || p.count() != 64-max(free-1, 0) {
			t.Errorf("P12: the split of a leaf with %d pages free: %+v, %+v", free, answer, asks)
		}
		// The leaf takes one page, the root two more.
		p = after(t, tens(20)...)
		p.leave(free)
		answer, asks = alone(t, p, put(210, 7))
		if (answer.Err == api.OK) != (free >= 1) || (p.levels(t) == 3) != (free >= 3) {
			t.Errorf("P12: the split of the root with %d pages free: %+v, %+v", free, answer, asks)
		}
		checkReach(t, p)
	}
}

// A Put that again and again comes too late with its split keeps the pages that it has made.
func TestSplitsNotDone(t *testing.T) {
	t.Parallel()
	for _, count := range []int{5, 8, 20, 23, 41} {
		for times := range 20 {
			p := after(t, tens(count)...)
			key := 10*count + 5
			c := begin(t, put(key, 7))
			for i := 0; i < times; i++ {
				c.toSwap(t, p)
				alone(t, p, put(10*count, i+1))
				c.move(t, p, 0)
			}
			c.finish(t, p, 0)
			twin := after(t, tens(count)...)
			other := begin(t, put(key, 7))
			other.finish(t, twin, 0)
			if c.missed != times || c.made != other.made || p.count() != twin.count() {
				t.Fatalf("P12: %d keys, %d Swaps not Done: %d pages made, want %d", count, c.missed, c.made, other.made)
			}
			checkQuick(t, p)
		}
	}
}

// A Put with two pages over, from a split of the first leaf that came too late, finds a tree of which
// its leaf and the root are full: it takes one page for the leaf, the other for the root.
func TestPagesOverAreUsedAbove(t *testing.T) {
	p := after(t, tens(5)...)
	c := begin(t, put(205, 7))
	c.toSwap(t, p)
	for _, key := range tens(20)[5:] {
		alone(t, p, put(key, key))
	}
	c.finish(t, p, 0)
	if c.made != 3 || c.missed != 1 || p.levels(t) != 3 || p.count() != 10 {
		t.Errorf("P12: %d pages made, %d in all: %+v", c.made, p.count(), c.asks)
	}
	checkQuick(t, p)
}

// toSwap moves the client until it wants to swap the leaf of its key.
func (c *client) toSwap(t *testing.T, p *pages) {
	t.Helper()
	way := p.wayTo(t, c.op.Key)
	for !c.ended {
		ask, _ := Next(c.frame)
		if ask.Kind == api.Swap && ask.Page == way[len(way)-1] {
			return
		}
		c.move(t, p, 0)
	}
	t.Fatalf("%+v ended", c.op)
}

// Many Puts that all want to split one leaf: all have made their pages when the first one swaps.
func TestManySplitOneLeaf(t *testing.T) {
	for _, before := range []int{5, 8, 20} {
		for _, count := range []int{2, 3, 10, 25, 40} {
			p := after(t, tens(before)...)
			var clients []*client
			for i := range count {
				c := begin(t, put(10*before+1+i, 7))
				for !c.ended && c.askKind() != api.Swap {
					c.move(t, p, 0)
				}
				clients = append(clients, c)
			}
			if p.count() > 1+3*(before+count) {
				t.Fatalf("P12: %d pages behind %d Puts", p.count(), before+count)
			}
			vain := 0
			for _, c := range backwardClients(clients) {
				c.finish(t, p, 0)
				vain += c.vain
			}
			if p.count() > 1+3*(before+count) || (count <= 10 && vain > 0) {
				t.Fatalf("P12: %d pages behind %d Puts, %d in vain", p.count(), before+count, vain)
			}
			if vain == 0 {
				checkQuick(t, p)
			}
			checkReach(t, p)
		}
	}
}

func (c *client) askKind() int {
	ask, _ := Next(c.frame)
	return ask.Kind
}

func backwardClients(clients []*client) []*client {
	list := slices.Clone(clients)
	slices.Reverse(list)
	return list
}

// Puts that stop behind the split of their leaf: only links lead on, and everybody else gets along,
// Puts that enter what they split among them.
func TestStoppedBehindTheirSplits(t *testing.T) {
	t.Parallel()
	for _, stop := range []int{4, 5, 6, 7, 8} {
		u := &run{p: begun()}
		stopped := 0
		for key := 10; key <= 3000 && !u.vain; key += 10 {
			c := begin(t, put(key, key))
			u.puts++
			for n := 0; !c.ended && n < stop; n++ {
				c.move(t, u.p, n)
			}
			if !c.ended {
				stopped++
			}
			u.do(t, put(key-5, key))
			u.do(t, scan(max(key-100, 1), key+10))
			checkReach(t, u.p)
		}
		if stopped < 5 {
			t.Errorf("only %d stopped at %d", stopped, stop)
		}
	}
}

// All levels are there: nothing can be entered above, and the Put ends as it took effect.
func TestNoLevelAbove(t *testing.T) {
	full := "9------" + "000001" + "000102" + "000203" + "000304" + "000406" + "000507"
	s := state{op: put(9, 9), step: 20, level: 9, low: 8, child: 8, point: 3}
	next, answer, ended, err := Tell(frameText(s), api.Reply{Version: 5, Text: full})
	if next != "" || !ended || err != api.OK || !sameAnswer(answer, api.Answer{Point: 3}) {
		t.Errorf("a full root at the last level: %q, %+v, %v, %d", next, answer, ended, err)
	}
	next, _, ended, err = Tell(frameText(s), api.Reply{Version: 5, Text: full[:len(full)-6]})
	ask, errNext := Next(next)
	want := api.Ask{Kind: api.Swap, Version: 5, Text: full[:len(full)-6] + "000808"}
	if ended || err != api.OK || errNext != api.OK || ask != want {
		t.Errorf("a root at the last level that has room: %+v, %v, %d, %d", ask, ended, err, errNext)
	}
}

// Replies that the document does not have: to a Fresh, and to the Swap of a page that nobody else knows.
func TestOddRepliesToSplits(t *testing.T) {
	p := after(t, tens(8)...)
	c := begin(t, put(90, 7))
	for c.askKind() != api.Fresh {
		c.move(t, p, 0)
	}
	for _, number := range []int{0, -2, 64, 10000} {
		next, answer, ended, err := Tell(c.frame, api.Reply{Page: number})
		if next != "" || ended || err != api.ErrFrame || !sameAnswer(answer, api.Answer{}) {
			t.Errorf("a Fresh that is told %d: %q, %+v, %v, %d", number, next, answer, ended, err)
		}
	}
	c.toSwap(t, p)
	alone(t, p, put(80, 1))
	c.move(t, p, 0)
	c.move(t, p, 0)
	ask, _ := Next(c.frame)
	if ask.Kind != api.Swap || ask.Page != 3 {
		t.Fatalf("the test's own client wants %+v", ask)
	}
	next, _, ended, err := Tell(c.frame, api.Reply{})
	again, errNext := Next(next)
	if ended || err != api.OK || errNext != api.OK || again.Kind != api.Fresh {
		t.Errorf("a Swap of a page of its own that is not Done: %+v, %v, %d, %d", again, ended, err, errNext)
	}
}

// Of a Fresh the page alone is looked at.
func TestFreshLooksAtPageAlone(t *testing.T) {
	p := after(t, tens(5)...)
	c := begin(t, put(60, 7))
	c.move(t, p, 0)
	for _, number := range []int{-1, 1, 2, 63} {
		want, wantAnswer, wantEnded, _ := Tell(c.frame, api.Reply{Page: number})
		for _, text := range oddTexts {
			next, answer, ended, err := Tell(c.frame, api.Reply{Page: number, Text: text, Version: len(text), Done: true})
			if next != want || !sameAnswer(answer, wantAnswer) || ended != wantEnded || err != api.OK {
				t.Errorf("a Fresh that is told %d and %.20q: %q, %+v, %v, %d", number, text, next, answer, ended, err)
			}
		}
	}
}

// What a run looks like when it fails.
func (u *run) String() string {
	return fmt.Sprintf("%d Puts, %d found nothing, %d full, %d levels", u.puts, u.in, u.full, u.deepest)
}

// Pages that no Put need ever make, of up to ten levels: keys come until the pages run out. (P10 may
// not go on holding there, where a node enters a leaf from above the first key that it is for.)
func TestSplittingGrownPages(t *testing.T) {
	t.Parallel()
	r := rand.New(rand.NewPCG(17, 18))
	made, full := 0, 0
	for round := range 100 {
		most := []int{30, 120, 10000}[round%3]
		p := grown(t, r, round%10, most)
		for range 150 {
			c := begin(t, randomOp(t, r, p, most-1, 3))
			c.finish(t, p, 0)
			made += c.made
			if c.answer.Err != api.OK {
				full++
			}
		}
		checkReach(t, p)
	}
	if made < 1000 || full < 100 {
		t.Errorf("the pages are too plain: %d made, %d times full", made, full)
	}
}
