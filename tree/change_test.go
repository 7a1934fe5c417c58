package tree

import (
	"maps"
	"math"
	"math/rand/v2"
	"slices"
	"testing"

	"sapling/api"
	"sapling/page"
)

func get(key int) api.Op        { return api.Op{Kind: api.Get, Key: key} }
func put(key, value int) api.Op { return api.Op{Kind: api.Put, Key: key, Value: value} }
func drop(key int) api.Op       { return api.Op{Kind: api.Drop, Key: key} }
func scan(from, to int) api.Op  { return api.Op{Kind: api.Scan, Key: from, Value: to} }

// copied shares nothing with the pages.
func (p *pages) copied() *pages {
	twin := *p
	return &twin
}

func TestDocumentsFirstPut(t *testing.T) {
	p := laid(First())
	c := begin(t, put(5, 50))
	c.finish(t, p, 0)
	asks := []api.Ask{{Kind: api.Read}, {Kind: api.Swap, Text: "0------00050050"}}
	if !slices.Equal(c.asks, asks) || !sameAnswer(c.answer, api.Answer{Point: 1}) {
		t.Errorf("P7, P8: the first Put asks %+v, answers %+v", c.asks, c.answer)
	}
}

func TestDocumentsPutBetween(t *testing.T) {
	p := laid(First())
	c := begin(t, put(5, 50))
	c.move(t, p, 0)
	alone(t, p, put(5, 60))
	c.finish(t, p, 1)
	asks := []api.Ask{{Kind: api.Read}, {Kind: api.Swap, Text: "0------00050050"},
		{Kind: api.Read}, {Kind: api.Swap, Version: 1, Text: "0------00050050"}}
	if !slices.Equal(c.asks, asks) || !sameAnswer(c.answer, api.Answer{Found: true, Value: 60, Point: 3}) {
		t.Errorf("P7, P8: a Put with another in between asks %+v, answers %+v", c.asks, c.answer)
	}
}

func TestDocumentsDropOfNothing(t *testing.T) {
	for _, p := range []*pages{laid(First()), oneLeaf(), linkedLeaf(), linkedAll()} {
		before := p.copied()
		answer, asks := alone(t, p, drop(14))
		way := p.wayTo(t, 14)
		if !sameAnswer(answer, api.Answer{Point: len(way) - 1}) || !p.same(before) {
			t.Errorf("P8: a Drop of a key that is not there: %+v, %q", answer, p.texts)
		}
		checkReads(t, p, asks, way)
	}
}

// One operation behind the other: at which page its swap is, and what the page is then.
func TestChange(t *testing.T) {
	for _, c := range []struct {
		why  string
		p    *pages
		op   api.Op
		had  int // -1: nothing
		page int
		text string // of the page behind the operation
	}{
		{"into an empty leaf", laid("0------"), put(1, 0), -1, 0, "0------" + "00010000"},
		{"the last key and value", laid("0------"), put(9999, 9999), -1, 0, "0------" + "99999999"},
		{"ahead of all", oneLeaf(), put(2, 22), -1, 0, "0------" + "00020022" + "00030033" + "00070077" + "00090000"},
		{"in the middle", oneLeaf(), put(8, 88), -1, 0, "0------" + "00030033" + "00070077" + "00080088" + "00090000"},
		{"behind all", oneLeaf(), put(10, 1), -1, 0, "0------" + "00030033" + "00070077" + "00090000" + "00100001"},
		{"of the first key again", oneLeaf(), put(3, 44), 33, 0, "0------" + "00030044" + "00070077" + "00090000"},
		{"of the last key again", oneLeaf(), put(9, 1), 0, 0, "0------" + "00030033" + "00070077" + "00090001"},
		{"of what is there", oneLeaf(), put(7, 77), 77, 0, oneLeaf().texts[0]},
		{"of a value 0 for another", oneLeaf(), put(7, 0), 77, 0, "0------" + "00030033" + "00070000" + "00090000"},
		{"a Drop of the first key", oneLeaf(), drop(3), 33, 0, "0------" + "00070077" + "00090000"},
		{"a Drop in the middle", oneLeaf(), drop(7), 77, 0, "0------" + "00030033" + "00090000"},
		{"a Drop of the last key", oneLeaf(), drop(9), 0, 0, "0------" + "00030033" + "00070077"},
		{"a Drop of the only key", laid("0------" + "50000001"), drop(5000), 1, 0, "0------"},
		{"the fifth key", laid("0------" + "00010001" + "00020002" + "00040004" + "00050005"), put(3, 3), -1, 0,
			"0------" + "00010001" + "00020002" + "00030003" + "00040004" + "00050005"},
		{"into a first child", linkedLeaf(), put(9, 99), -1, 1, "0020010" + "00030033" + "00070077" + "00090099"},
		{"at a High, by the link", linkedLeaf(), put(10, 1), -1, 2, "0030020" + "00100001" + "00120122" + "00190199"},
		{"below a High, by the link", linkedLeaf(), drop(19), 199, 2, "0030020" + "00120122"},
		{"into a last child", linkedLeaf(), put(20, 5), -1, 3, "0------" + "00200005" + "00250255" + "99990001"},
		{"the last key of all", linkedLeaf(), drop(9999), 1, 3, "0------" + "00250255"},
		{"three levels down", linkedAll(), put(9, 1), 90, 3, "0040010" + "00050050" + "00090001"},
		{"by a link below a link", linkedAll(), put(29, 2), -1, 5, "0060030" + "00200200" + "00210210" + "00290002"},
		{"by two links below a link", linkedAll(), drop(30), 300, 6, "0------"},
		{"into an empty leaf down there", linkedAll(), put(19, 3), -1, 4, "0050020" + "00190003"},
		{"again in a full leaf", fourFull(), put(13, 9), 13, 3, "0040016" + "00110011" + "00120012" + "00130009" + "00140014" + "00150015"},
		{"a Drop from a full leaf", fourFull(), drop(11), 11, 3, "0040016" + "00120012" + "00130013" + "00140014" + "00150015"},
		{"at the highest High", lastKeys(), put(9998, 1), 9980, 3, "0049999" + "99980001"},
	} {
		way := c.p.wayTo(t, c.op.Key)
		if way[len(way)-1] != c.page {
			t.Fatalf("the test's own %s: the way is %v", c.why, way)
		}
		want := c.p.copied()
		want.texts[c.page] = c.text
		want.versions[c.page] = 1
		answer, asks := alone(t, c.p, c.op)
		if !sameAnswer(answer, api.Answer{Found: c.had >= 0, Value: max(c.had, 0), Point: len(way)}) {
			t.Errorf("P8: %s: %+v = %+v", c.why, c.op, answer)
		}
		if !c.p.same(want) {
			t.Errorf("P8: %s: %+v leaves %q", c.why, c.op, c.p.texts)
		}
		last := len(asks) - 1
		checkReads(t, c.p, asks[:last], way)
		if asks[last] != (api.Ask{Kind: api.Swap, Page: c.page, Text: c.text}) {
			t.Errorf("P7: %s: %+v asks for %+v", c.why, c.op, asks[last])
		}
	}
}

// The version of a swap is the one that was read, be it the greatest of all numbers.
func TestVersionOfSwap(t *testing.T) {
	for _, version := range []int{0, 1, 9, 10, 63, 9999, 10000, 1 << 40, math.MaxInt - 9, math.MaxInt - 1} {
		for _, op := range []api.Op{put(12, 1), put(13, 1), drop(12)} {
			p := linkedLeaf()
			p.versions = [64]int{version - 1, version + 1, version, version + 1}
			before := p.copied()
			answer, asks := alone(t, p, op)
			swap := asks[len(asks)-1]
			if swap.Kind != api.Swap || swap.Version != version || answer.Point != 3 || len(asks) != 4 {
				t.Errorf("P7: %+v at version %d: %+v", op, version, asks)
			}
			checkShape(t, before, p)
		}
	}
	frame, _ := Begin(put(5, 50))
	next, _, _, err := Tell(frame, api.Reply{Version: math.MaxInt, Text: "0------"})
	ask, errNext := Next(next)
	if err != api.OK || errNext != api.OK || ask.Version != math.MaxInt {
		t.Errorf("P7: the version %d becomes %+v, %d, %d", math.MaxInt, ask, err, errNext)
	}
}

// A Swap that is not Done, many times in a row: each time the page is read anew.
func TestSwapsNotDone(t *testing.T) {
	for _, p := range []*pages{oneLeaf(), linkedLeaf(), linkedAll()} {
		for times := range 30 {
			for _, op := range []api.Op{put(9, 1), drop(9)} {
				checkNotDone(t, p.copied(), op, times)
			}
		}
	}
}

// checkNotDone lets a Put of the operation's own key come ahead of each of its first Swaps.
func checkNotDone(t *testing.T, p *pages, op api.Op, times int) {
	t.Helper()
	alone(t, p, put(op.Key, 5000))
	way := p.wayTo(t, op.Key)
	leaf := way[len(way)-1]
	c := begin(t, op)
	for range way {
		c.move(t, p, 0)
	}
	for i := range times {
		alone(t, p, put(op.Key, 6000+i))
		c.move(t, p, 0)
		c.move(t, p, 0)
	}
	c.move(t, p, 0)
	want := api.Answer{Found: true, Value: 5000, Point: len(way) + 2*times}
	if times > 0 {
		want.Value = 6000 + times - 1
	}
	if !c.ended || !sameAnswer(c.answer, want) || c.missed != times {
		t.Fatalf("P8: %+v with %d Swaps not Done: %+v, want %+v", op, times, c.answer, want)
	}
	for i, ask := range c.asks[len(way):] {
		if ask.Page != leaf || (ask.Kind == api.Swap) != (i%2 == 0) {
			t.Fatalf("%+v with %d Swaps not Done asks %+v", op, times, c.asks)
		}
	}
	value, found := p.content(t)[op.Key]
	if found != (op.Kind == api.Put) || value != op.Value {
		t.Fatalf("P8: behind %+v with %d Swaps not Done there is %d, %v", op, times, value, found)
	}
}

// What another does between a read and a swap decides the answer.
func TestOneBetween(t *testing.T) {
	for _, c := range []struct {
		op, between api.Op
		want        api.Answer
		text        string
	}{
		{put(7, 1), put(7, 2), api.Answer{Found: true, Value: 2, Point: 3}, "0------" + "00030033" + "00070001" + "00090000"},
		{put(7, 1), drop(7), api.Answer{Point: 3}, "0------" + "00030033" + "00070001" + "00090000"},
		{put(7, 1), put(4, 4), api.Answer{Found: true, Value: 77, Point: 3}, "0------" + "00030033" + "00040004" + "00070001" + "00090000"},
		{put(7, 1), drop(9), api.Answer{Found: true, Value: 77, Point: 3}, "0------" + "00030033" + "00070001"},
		{put(8, 1), put(8, 2), api.Answer{Found: true, Value: 2, Point: 3}, "0------" + "00030033" + "00070077" + "00080001" + "00090000"},
		{put(8, 1), drop(8), api.Answer{Point: 1}, "0------" + "00030033" + "00070077" + "00080001" + "00090000"},
		{put(8, 1), get(8), api.Answer{Point: 1}, "0------" + "00030033" + "00070077" + "00080001" + "00090000"},
		{put(7, 1), put(7, 77), api.Answer{Found: true, Value: 77, Point: 3}, "0------" + "00030033" + "00070001" + "00090000"},
		{drop(7), drop(7), api.Answer{Point: 2}, "0------" + "00030033" + "00090000"},
		{drop(7), put(7, 2), api.Answer{Found: true, Value: 2, Point: 3}, "0------" + "00030033" + "00090000"},
		{drop(7), drop(3), api.Answer{Found: true, Value: 77, Point: 3}, "0------" + "00090000"},
		{drop(7), scan(1, 9999), api.Answer{Found: true, Value: 77, Point: 1}, "0------" + "00030033" + "00090000"},
	} {
		p := oneLeaf()
		j := begin(t, c.op)
		j.move(t, p, 0)
		alone(t, p, c.between)
		j.finish(t, p, 0)
		if !sameAnswer(j.answer, c.want) || p.texts[0] != c.text {
			t.Errorf("P8: %+v with %+v in between: %+v, want %+v, %q", c.op, c.between, j.answer, c.want, p.texts[0])
		}
	}
}

// The page has turned and turned back: its text is what was read, its version is not.
func TestSameTextAgain(t *testing.T) {
	p := oneLeaf()
	c := begin(t, put(8, 1))
	c.move(t, p, 0)
	alone(t, p, drop(7))
	alone(t, p, put(7, 77))
	if p.texts[0] != oneLeaf().texts[0] || p.versions[0] != 2 {
		t.Fatalf("the test's own pages: %q, %d", p.texts[0], p.versions[0])
	}
	c.finish(t, p, 0)
	if !sameAnswer(c.answer, api.Answer{Point: 3}) || c.asks[3].Version != 2 {
		t.Errorf("P7, P8: %+v, %+v", c.asks, c.answer)
	}
}

// turn is a way in which pages may turn under an operation, the map being the same.
type turn struct {
	why           string
	before, after *pages
}

func turns() []turn {
	return []turn{
		{"nothing", linkedAll(), linkedAll()},
		{"the leaf at page 0 becomes a node with two children", laid("0------" + "00030033" + "00070077" + "00090090"),
			laid("1------"+"000001"+"000702", "0020007"+"00030033", "0------"+"00070077"+"00090090")},
		{"a leaf becomes two, of which only a link tells", laid("1------"+"000001", "0------"+"00030033"+"00070077"+"00090090"),
			laid("1------"+"000001", "0020008"+"00030033"+"00070077", "0------"+"00090090")},
		{"a leaf becomes three, of which a child tells", laid("1------"+"000001", "0------"+"00030033"+"00070077"+"00090090"),
			laid("1------"+"000001"+"000802", "0030004"+"00030033", "0------"+"00090090", "0020008"+"00070077")},
		{"a level more, and the leaf moves below it", laid("1------"+"000001"+"000602", "0020006"+"00030033", "0------"+"00070077"+"00090090"),
			laid("2------"+"000003"+"000904", "0020006"+"00030033", "0050009"+"00070077", "1040009"+"000001"+"000602", "1------"+"000905", "0------"+"00090090")},
		{"the leaf at page 0 becomes a tree of three levels", laid("0------" + "00030033" + "00070077" + "00090090"),
			laid("2------"+"000001"+"000702", "1020007"+"000003", "1------"+"000704", "0040007"+"00030033", "0050008"+"00070077", "0------"+"00090090")},
	}
}

func TestPagesTurnUnderneath(t *testing.T) {
	for _, way := range turns() {
		for _, p := range []*pages{way.before, way.after} {
			if fault := p.fault(); fault != "" || !maps.Equal(p.content(t), way.before.content(t)) {
				t.Fatalf("the test's own pages: %s: %s", way.why, fault)
			}
		}
		for key := 1; key <= 12; key++ {
			for _, op := range []api.Op{get(key), put(key, 5), drop(key), scan(key, 12)} {
				for when := range 6 {
					checkTurn(t, way, op, when)
				}
			}
		}
	}
}

// checkTurn lets the pages turn ahead of the access that when tells.
func checkTurn(t *testing.T, way turn, op api.Op, when int) {
	t.Helper()
	p := way.before.copied()
	c := begin(t, op)
	now := 0
	for now < when && !c.ended {
		c.move(t, p, now)
		now++
	}
	if c.ended {
		return
	}
	for i := range p.texts {
		if p.texts[i] != way.after.texts[i] {
			p.texts[i] = way.after.texts[i]
			if p.used[i] {
				p.versions[i] += 3
			}
			p.used[i] = true
		}
	}
	c.finish(t, p, now)
	after := checkOrder(t, way.before.content(t), []*client{c})
	checkContent(t, p, after)
	checkShape(t, way.after, p)
}

// Every operation at each key that matters, one behind the other, held against a map.
func TestChangingHandMadePages(t *testing.T) {
	for _, p := range handMade() {
		before := p.copied()
		for _, key := range marksOf(p.leaves(t)) {
			for _, op := range []api.Op{drop(key), get(key), put(key, key), get(key), put(key, 9999), drop(key), drop(key)} {
				checkAlone(t, p, op)
			}
		}
		checkShape(t, before, p)
		if len(p.content(t)) > 0 {
			t.Errorf("P8: of all keys that were dropped, %v are left", p.content(t))
		}
	}
}

// checkAlone holds an operation that moves alone against the leaves, ahead of it and behind it.
func checkAlone(t *testing.T, p *pages, op api.Op) {
	t.Helper()
	before := p.content(t)
	way := p.wayTo(t, op.Key)
	c := begin(t, op)
	c.finish(t, p, 0)
	after := checkOrder(t, before, []*client{c})
	checkContent(t, p, after)
	accesses := len(way)
	if op.Kind == api.Put || (op.Kind == api.Drop && c.answer.Found) {
		accesses++
	}
	if len(c.asks) != accesses || c.answer.Point != accesses-1 {
		t.Fatalf("%+v: %+v with %d accesses, want %d", op, c.answer, len(c.asks), accesses)
	}
	checkReads(t, p, c.asks[:len(way)], way)
}

// roomy are keys of which all may be in the map at once, without a leaf that has more than five:
// all that are there, and others beside them, those at the ends of a leaf first.
func roomy(r *rand.Rand, leaves []api.Node) []int {
	var keys []int
	low := 1
	for _, leaf := range leaves {
		pool := slices.Clone(leaf.Keys)
		for _, key := range append([]int{low, leaf.High - 1}, randomKeys(r, low, leaf.High, 5)...) {
			if len(pool) < 5 && key >= low && !slices.Contains(pool, key) {
				pool = append(pool, key)
			}
		}
		keys = append(keys, pool...)
		low = leaf.High
	}
	return keys
}

func TestChangingGrownPages(t *testing.T) {
	t.Parallel()
	r := rand.New(rand.NewPCG(3, 4))
	for round := range 60 {
		p := grown(t, r, round%10, []int{30, 120, 10000}[round%3])
		before := p.copied()
		keys := roomy(r, p.leaves(t))
		for range 200 {
			key := keys[r.IntN(len(keys))]
			checkAlone(t, p, []api.Op{get(key), put(key, r.IntN(10000)), put(key, r.IntN(3)), drop(key)}[r.IntN(4)])
		}
		checkShape(t, before, p)
	}
}

// A reply to a Put or a Drop that the document does not have: a page with a text, but no version.
func TestNoVersion(t *testing.T) {
	for _, op := range []api.Op{put(3, 1), drop(3)} {
		for _, version := range []int{-1, -2, math.MinInt} {
			frame, _ := Begin(op)
			next, answer, ended, err := Tell(frame, api.Reply{Version: version, Text: oneLeaf().texts[0]})
			if next != "" || ended || err != api.ErrFrame || !sameAnswer(answer, api.Answer{}) {
				t.Errorf("%+v told the version %d: %q, %+v, %v, %d", op, version, next, answer, ended, err)
			}
		}
	}
}

// What a Swap is told beside Done is not looked at.
func TestSwapLooksAtDoneAlone(t *testing.T) {
	frame, _ := Begin(put(8, 1))
	frame, _, _, _ = Tell(frame, api.Reply{Version: 4, Text: oneLeaf().texts[0]})
	for _, done := range []bool{false, true} {
		want, wantAnswer, wantEnded, wantErr := Tell(frame, api.Reply{Done: done})
		for _, text := range oddTexts {
			for _, number := range oddNumbers {
				next, answer, ended, err := Tell(frame, api.Reply{Version: number, Page: number, Text: text, Done: done})
				if next != want || !sameAnswer(answer, wantAnswer) || ended != wantEnded || err != wantErr {
					t.Errorf("Tell of a Swap that is told %d, %.20q, %v: %q, %+v, %v, %d", number, text, done, next, answer, ended, err)
				}
			}
		}
	}
}

// A leaf's text is written anew: a Put leaves no key twice, and none out of order.
func TestSwappedTextsAreRight(t *testing.T) {
	t.Parallel()
	r := rand.New(rand.NewPCG(5, 6))
	for range 3000 {
		high := 2 + r.IntN(9998)
		keys := randomKeys(r, 1, high, 4)
		n := api.Node{Link: 2, High: high, Keys: keys, Vals: slices.Repeat([]int{7}, len(keys))}
		text, _ := page.Pack(n)
		p := laid("1------"+"000001", text, "0------")
		for _, key := range []int{1, 1 + r.IntN(high-1), high - 1} {
			checkAlone(t, p.copied(), put(key, r.IntN(10000)))
			checkAlone(t, p.copied(), drop(key))
		}
	}
}
