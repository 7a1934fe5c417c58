package tree

import (
	"math/rand/v2"
	"slices"
	"testing"

	"sapling/api"
)

func sameAnswer(a, b api.Answer) bool {
	return a.Err == b.Err && a.Found == b.Found && a.Value == b.Value && a.Point == b.Point &&
		slices.Equal(a.Keys, b.Keys) && slices.Equal(a.Vals, b.Vals) && slices.Equal(a.Cuts, b.Cuts)
}

// wayTo is P15's way: the pages from the root to the leaf of a key.
func (p *pages) wayTo(t *testing.T, key int) []int {
	t.Helper()
	way := []int{0}
	for n := p.node(t, 0); n.Level > 0 || key >= n.High; n = p.node(t, way[len(way)-1]) {
		next := n.Link
		if key < n.High {
			at, met := slices.BinarySearch(n.Keys, key)
			if !met {
				at--
			}
			next = n.Vals[at]
		}
		way = append(way, next)
	}
	return way
}

// checkGet holds a Get against the leaves.
func checkGet(t *testing.T, p *pages, leaves []api.Node, key int) {
	t.Helper()
	way := p.wayTo(t, key)
	want := api.Answer{Point: len(way) - 1}
	for _, leaf := range leaves {
		if at, met := slices.BinarySearch(leaf.Keys, key); met {
			want.Found, want.Value = true, leaf.Vals[at]
		}
	}
	answer, asks := alone(t, p, api.Op{Kind: api.Get, Key: key, Value: -key})
	if !sameAnswer(answer, want) {
		t.Fatalf("P15: Get %d = %+v, want %+v, in %q", key, answer, want, p.texts)
	}
	checkReads(t, p, asks, way)
}

func checkReads(t *testing.T, p *pages, asks []api.Ask, way []int) {
	t.Helper()
	var read []int
	for _, ask := range asks {
		if ask.Kind != api.Read {
			t.Fatalf("P7: a look that asks for %+v", ask)
		}
		read = append(read, ask.Page)
	}
	if !slices.Equal(read, way) {
		t.Fatalf("P15: reads %v, want %v, in %q", read, way, p.texts)
	}
}

// checkScan holds a Scan against the leaves: a piece for each from that of the first key on.
func checkScan(t *testing.T, p *pages, leaves []api.Node, from, to int) {
	t.Helper()
	way := p.wayTo(t, from)
	want := api.Answer{Point: len(way) - 2}
	for i, leaf := range leaves {
		if leaf.High <= from || want.Value == 12 || (len(want.Cuts) > 0 && want.Cuts[len(want.Cuts)-1].Below > to) {
			continue
		}
		if len(want.Cuts) > 0 {
			way = append(way, leaves[i-1].Link)
		}
		below := min(leaf.High, to+1)
		for j, key := range leaf.Keys {
			if key >= from && key <= to && want.Value < 12 {
				want.Keys, want.Vals = append(want.Keys, key), append(want.Vals, leaf.Vals[j])
				want.Found, want.Value = true, want.Value+1
			}
		}
		if want.Value == 12 {
			below = want.Keys[11] + 1
		}
		want.Point++
		want.Cuts = append(want.Cuts, api.Cut{Below: below, Point: want.Point})
	}
	answer, asks := alone(t, p, api.Op{Kind: api.Scan, Key: from, Value: to})
	if !sameAnswer(answer, want) {
		t.Fatalf("P15: Scan %d to %d = %+v, want %+v, in %q", from, to, answer, want, p.texts)
	}
	checkReads(t, p, asks, way)
}

// oneLeaf: the root is a leaf.
func oneLeaf() *pages {
	return laid("0------" + "00030033" + "00070077" + "00090000")
}

// linkedLeaf: of three leaves the second (from 10 on, below 20) has no entry above.
func linkedLeaf() *pages {
	return laid("1------"+"000001"+"002003",
		"0020010"+"00030033"+"00070077", "0030020"+"00120122"+"00190199", "0------"+"00250255"+"99990001")
}

// linkedAll: of each row only one node has an entry above that is its own; the second leaf of four
// is empty, and the node that begins with 15 enters it from there on.
func linkedAll() *pages {
	return laid("2------"+"000001", "1020015"+"000003", "1------"+"001504",
		"0040010"+"00050050"+"00090090", "0050020", "0060030"+"00200200"+"00210210", "0------"+"00300300")
}

// fourFull: five keys in each of four leaves, 1 to 20.
func fourFull() *pages {
	return laid("1------"+"000001"+"000602"+"001103"+"001604",
		"0020006"+"00010001"+"00020002"+"00030003"+"00040004"+"00050005",
		"0030011"+"00060006"+"00070007"+"00080008"+"00090009"+"00100010",
		"0040016"+"00110011"+"00120012"+"00130013"+"00140014"+"00150015",
		"0------"+"00160016"+"00170017"+"00180018"+"00190019"+"00200020")
}

// lastKeys: leaves that end at the first and at the last number that a High can be.
func lastKeys() *pages {
	return laid("1------"+"000001"+"999803",
		"0020001", "0039998"+"00010010"+"99979970", "0049999"+"99989980", "0------"+"99999990")
}

func handMade() []*pages {
	return []*pages{laid("0------"), oneLeaf(), linkedLeaf(), linkedAll(), fourFull(), lastKeys()}
}

func TestHandMadePagesStand(t *testing.T) {
	for _, p := range handMade() {
		if fault := p.fault(); fault != "" {
			t.Errorf("the test's own pages: %s: %q", fault, p.texts)
		}
	}
}

// What the other tests hold their pages against must itself see what is wrong.
func TestFaultsAreSeen(t *testing.T) {
	leaf1, leaf2 := "0020010"+"00030033", "0------"+"00120122"
	for why, p := range map[string]*pages{
		"a text that is none":            laid("0-----"),
		"a root with a High":             laid("0010010", "0------"),
		"a child that is free":           laid("1------" + "000001"),
		"a child of the wrong level":     laid("2------"+"000001", "0------"),
		"a link to the wrong level":      laid("1------"+"000001", leaf1, "1------"+"001001"),
		"a link back":                    laid("1------"+"000001", "0020010", "0010020"),
		"a High that does not rise":      laid("1------"+"000001", leaf1, "0030009", "0------"),
		"a key below the High ahead":     laid("1------"+"000001", leaf1, "0------"+"00090122"),
		"a child with a key too low":     laid("1------"+"000001"+"001302", leaf1, leaf2),
		"a child that ends too early":    laid("1------"+"000001"+"001101", "0020010", leaf2),
		"a child that begins too late":   laid("1------"+"000001"+"000902", leaf1, leaf2),
		"a child that is in no row":      laid("1------"+"000001"+"001003", leaf1, leaf2, "0------"),
		"a first key that is not 0":      laid("1------"+"000101", "0------"),
		"a first key that is not a High": laid("2------"+"000001", "1020010"+"000003", "1------"+"001104", "0040010", "0------"),
	} {
		if p.fault() == "" {
			t.Errorf("%s is not seen: %q", why, p.texts)
		}
	}
}

func TestGet(t *testing.T) {
	for _, c := range []struct {
		p                 *pages
		key, value, point int
		found             bool
	}{
		{laid("0------"), 1, 0, 0, false}, {laid("0------"), 9999, 0, 0, false},
		{oneLeaf(), 3, 33, 0, true}, {oneLeaf(), 9, 0, 0, true}, {oneLeaf(), 8, 0, 0, false}, {oneLeaf(), 10, 0, 0, false},
		{linkedLeaf(), 1, 0, 1, false}, {linkedLeaf(), 7, 77, 1, true}, {linkedLeaf(), 9, 0, 1, false}, {linkedLeaf(), 10, 0, 2, false},
		{linkedLeaf(), 12, 122, 2, true}, {linkedLeaf(), 19, 199, 2, true}, {linkedLeaf(), 20, 0, 1, false}, {linkedLeaf(), 9999, 1, 1, true},
		{linkedAll(), 9, 90, 2, true}, {linkedAll(), 10, 0, 3, false}, {linkedAll(), 14, 0, 3, false}, {linkedAll(), 15, 0, 3, false},
		{linkedAll(), 20, 200, 4, true}, {linkedAll(), 29, 0, 4, false}, {linkedAll(), 30, 300, 5, true}, {linkedAll(), 9999, 0, 5, false},
		{fourFull(), 5, 5, 1, true}, {fourFull(), 6, 6, 1, true}, {fourFull(), 20, 20, 1, true}, {fourFull(), 21, 0, 1, false},
		{lastKeys(), 1, 10, 2, true}, {lastKeys(), 9997, 9970, 2, true}, {lastKeys(), 9998, 9980, 1, true}, {lastKeys(), 9999, 9990, 2, true},
	} {
		answer, asks := alone(t, c.p, api.Op{Kind: api.Get, Key: c.key})
		want := api.Answer{Found: c.found, Value: c.value, Point: c.point}
		if !sameAnswer(answer, want) || len(asks) != c.point+1 {
			t.Errorf("P15: Get %d = %+v in %d accesses, want %+v, in %q", c.key, answer, len(asks), want, c.p.texts)
		}
	}
}

func TestScan(t *testing.T) {
	for _, c := range []struct {
		why      string
		p        *pages
		from, to int
		keys     []int
		cuts     []api.Cut
	}{
		{"nothing there", laid("0------"), 1, 9999, nil, []api.Cut{{Below: 10000}}},
		{"the document's", oneLeaf(), 4, 8, []int{7}, []api.Cut{{Below: 9}}},
		{"one key", oneLeaf(), 7, 7, []int{7}, []api.Cut{{Below: 8}}},
		{"both ends included", oneLeaf(), 3, 9, []int{3, 7, 9}, []api.Cut{{Below: 10}}},
		{"between two keys", oneLeaf(), 4, 6, nil, []api.Cut{{Below: 7}}},
		{"within a leaf", linkedLeaf(), 4, 8, []int{7}, []api.Cut{{Below: 9, Point: 1}}},
		{"at a leaf's end", linkedLeaf(), 4, 9, []int{7}, []api.Cut{{Below: 10, Point: 1}}},
		{"one behind a leaf's end", linkedLeaf(), 4, 10, []int{7}, []api.Cut{{Below: 10, Point: 1}, {Below: 11, Point: 2}}},
		{"from a leaf's last key on", linkedLeaf(), 9, 19, []int{12, 19}, []api.Cut{{Below: 10, Point: 1}, {Below: 20, Point: 2}}},
		{"from a High on", linkedLeaf(), 10, 12, []int{12}, []api.Cut{{Below: 13, Point: 2}}},
		{"at the last leaf", linkedLeaf(), 1, 9999, []int{3, 7, 12, 19, 25, 9999}, []api.Cut{{Below: 10, Point: 1}, {Below: 20, Point: 2}, {Below: 10000, Point: 3}}},
		{"over an empty leaf", linkedAll(), 9, 20, []int{9, 20}, []api.Cut{{Below: 10, Point: 2}, {Below: 20, Point: 3}, {Below: 21, Point: 4}}},
		{"an empty leaf alone", linkedAll(), 10, 19, nil, []api.Cut{{Below: 20, Point: 3}}},
		{"twelve, and more behind them", fourFull(), 1, 9999, []int{1, 2, 3, 4, 5, 6, 7, 8, 9, 10, 11, 12}, []api.Cut{{Below: 6, Point: 1}, {Below: 11, Point: 2}, {Below: 13, Point: 3}}},
		{"twelve up to a leaf's end", fourFull(), 4, 9999, []int{4, 5, 6, 7, 8, 9, 10, 11, 12, 13, 14, 15}, []api.Cut{{Below: 6, Point: 1}, {Below: 11, Point: 2}, {Below: 16, Point: 3}}},
		{"twelve, and none behind them", fourFull(), 9, 9999, []int{9, 10, 11, 12, 13, 14, 15, 16, 17, 18, 19, 20}, []api.Cut{{Below: 11, Point: 1}, {Below: 16, Point: 2}, {Below: 21, Point: 3}}},
		{"twelve, and Value is the last", fourFull(), 1, 12, []int{1, 2, 3, 4, 5, 6, 7, 8, 9, 10, 11, 12}, []api.Cut{{Below: 6, Point: 1}, {Below: 11, Point: 2}, {Below: 13, Point: 3}}},
		{"eleven", fourFull(), 1, 11, []int{1, 2, 3, 4, 5, 6, 7, 8, 9, 10, 11}, []api.Cut{{Below: 6, Point: 1}, {Below: 11, Point: 2}, {Below: 12, Point: 3}}},
		{"eleven, up to the last key", fourFull(), 10, 9999, []int{10, 11, 12, 13, 14, 15, 16, 17, 18, 19, 20}, []api.Cut{{Below: 11, Point: 1}, {Below: 16, Point: 2}, {Below: 10000, Point: 3}}},
		{"past a leaf without any key", lastKeys(), 1, 9998, []int{1, 9997, 9998}, []api.Cut{{Below: 9998, Point: 2}, {Below: 9999, Point: 3}}},
		{"the last key", lastKeys(), 9999, 9999, []int{9999}, []api.Cut{{Below: 10000, Point: 2}}},
	} {
		answer, asks := alone(t, c.p, api.Op{Kind: api.Scan, Key: c.from, Value: c.to})
		last := c.cuts[len(c.cuts)-1].Point
		if !slices.Equal(answer.Keys, c.keys) || !slices.Equal(answer.Cuts, c.cuts) || len(asks) != last+1 {
			t.Errorf("P15: %s: Scan %d to %d = %+v in %d accesses, want %+v", c.why, c.from, c.to, answer, len(asks), c)
		}
		if answer.Err != api.OK || answer.Found != (len(c.keys) > 0) || answer.Value != len(c.keys) || answer.Point != last {
			t.Errorf("%s: Scan %d to %d: %+v", c.why, c.from, c.to, answer)
		}
		checkScan(t, c.p, c.p.leaves(t), c.from, c.to)
	}
}

// Every key, and every two keys near an end of a leaf or a key that is there.
func TestLookingOverHandMadePages(t *testing.T) {
	t.Parallel()
	for _, p := range handMade() {
		leaves := p.leaves(t)
		for key := 1; key <= 9999; key++ {
			checkGet(t, p, leaves, key)
		}
		marks := marksOf(leaves)
		for _, from := range marks {
			for _, to := range marks {
				if from <= to {
					checkScan(t, p, leaves, from, to)
				}
			}
		}
	}
}

// marksOf are the keys that matter: those near a High or a key.
func marksOf(leaves []api.Node) []int {
	marks := []int{1, 2, 9998, 9999}
	for _, leaf := range leaves {
		for _, at := range append([]int{leaf.High}, leaf.Keys...) {
			for key := max(at-1, 1); key <= min(at+1, 9999); key++ {
				marks = append(marks, key)
			}
		}
	}
	slices.Sort(marks)
	return slices.Compact(marks)
}

func TestLookingOverGrownPages(t *testing.T) {
	t.Parallel()
	r := rand.New(rand.NewPCG(1, 2))
	linked, full, empty := 0, 0, 0
	for round := range 150 {
		most := []int{30, 120, 10000}[round%3]
		p := grown(t, r, round%10, most)
		leaves := p.leaves(t)
		marks := marksOf(leaves)
		for _, key := range marks {
			checkGet(t, p, leaves, key)
			if len(p.wayTo(t, key)) > round%10+1 {
				linked++
			}
		}
		for range 200 {
			from, to := marks[r.IntN(len(marks))], marks[r.IntN(len(marks))]
			checkScan(t, p, leaves, min(from, to), max(from, to))
		}
		checkScan(t, p, leaves, 1, 9999)
		for _, leaf := range leaves {
			if len(leaf.Keys) == 0 {
				empty++
			}
			full += len(leaf.Keys) / 5
		}
	}
	if linked < 2000 || full < 50 || empty < 300 {
		t.Errorf("the pages are too plain: %d keys behind a link, %d full leaves, %d empty ones", linked, full, empty)
	}
}

func TestAnswersAreFresh(t *testing.T) {
	for _, p := range []*pages{oneLeaf(), fourFull()} {
		op := api.Op{Kind: api.Scan, Key: 1, Value: 9999}
		want, _ := alone(t, p, op)
		answer, _ := alone(t, p, op)
		spoil(answer.Keys)
		if !slices.Equal(answer.Vals, want.Vals) {
			t.Errorf("P2: Keys and Vals share memory")
		}
		spoil(answer.Vals)
		for i := range answer.Cuts {
			answer.Cuts[i] = api.Cut{}
		}
		again, _ := alone(t, p, op)
		if !sameAnswer(again, want) || len(want.Keys) < 3 || want.Keys[0] < 1 {
			t.Errorf("P2: an answer's lists are not fresh: %+v, %+v", again, want)
		}
	}
}

// spoil writes over a list and its spare room.
func spoil(list []int) {
	list = list[:cap(list)]
	for i := range list {
		list[i] = -7
	}
}
