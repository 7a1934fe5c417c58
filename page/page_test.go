package page

import (
	"fmt"
	"math"
	"regexp"
	"slices"
	"strconv"
	"strings"
	"testing"

	"sapling/api"
)

func node(level, link, high int, keysAndVals ...int) api.Node {
	n := api.Node{Level: level, Link: link, High: high}
	for i := 0; i+1 < len(keysAndVals); i += 2 {
		n.Keys = append(n.Keys, keysAndVals[i])
		n.Vals = append(n.Vals, keysAndVals[i+1])
	}
	return n
}

func same(a, b api.Node) bool {
	return a.Level == b.Level && a.Link == b.Link && a.High == b.High &&
		slices.Equal(a.Keys, b.Keys) && slices.Equal(a.Vals, b.Vals)
}

func copyOf(n api.Node) api.Node {
	n.Keys = slices.Clone(n.Keys)
	n.Vals = slices.Clone(n.Vals)
	return n
}

// wantText is the document's word on P3, written a second time with other means.
func wantText(n api.Node) (string, bool) {
	if n.Level < 0 || n.Level > 9 || n.High < 1 || n.High > 10000 || len(n.Keys) != len(n.Vals) {
		return "", false
	}
	tail := fmt.Sprintf("%02d%04d", n.Link, n.High)
	if n.High == 10000 {
		tail = "------"
	}
	if (n.High == 10000) != (n.Link == -1) || n.Link < -1 || n.Link == 0 || n.Link > 63 {
		return "", false
	}
	form, leastKey, leastVal, mostVal, least, most := "%04d%02d", 0, 1, 63, 1, 6
	if n.Level == 0 {
		form, leastKey, leastVal, mostVal, least, most = "%04d%04d", 1, 0, 9999, 0, 5
	}
	if len(n.Keys) < least || len(n.Keys) > most {
		return "", false
	}
	text := strconv.Itoa(n.Level) + tail
	for i, key := range n.Keys {
		if key < leastKey || key >= n.High || (i > 0 && n.Keys[i-1] >= key) {
			return "", false
		}
		if n.Vals[i] < leastVal || n.Vals[i] > mostVal {
			return "", false
		}
		text += fmt.Sprintf(form, key, n.Vals[i])
	}
	return text, true
}

var leafForm = regexp.MustCompile(`\A(0)(--|[0-9]{2})(----|[0-9]{4})((?:[0-9]{8})*)\z`)
var innerForm = regexp.MustCompile(`\A([1-9])(--|[0-9]{2})(----|[0-9]{4})((?:[0-9]{6})*)\z`)

// wantNode is the document's word on P4: the node whose wantText is s.
func wantNode(s string) (api.Node, bool) {
	width := 8
	parts := leafForm.FindStringSubmatch(s)
	if parts == nil {
		width = 6
		parts = innerForm.FindStringSubmatch(s)
	}
	if parts == nil {
		return api.Node{}, false
	}
	n := api.Node{Link: -1, High: 10000}
	n.Level, _ = strconv.Atoi(parts[1])
	if parts[2] != "--" {
		n.Link, _ = strconv.Atoi(parts[2])
	}
	if parts[3] != "----" {
		n.High, _ = strconv.Atoi(parts[3])
	}
	for rest := parts[4]; rest != ""; rest = rest[width:] {
		key, _ := strconv.Atoi(rest[:4])
		val, _ := strconv.Atoi(rest[4:width])
		n.Keys = append(n.Keys, key)
		n.Vals = append(n.Vals, val)
	}
	text, ok := wantText(n)
	if !ok || text != s {
		return api.Node{}, false
	}
	return n, true
}

func checkPack(t *testing.T, n api.Node) bool {
	t.Helper()
	before := copyOf(n)
	text, err := Pack(n)
	want, right := wantText(before)
	wantErr := api.OK
	if !right {
		wantErr = api.ErrNode
	}
	if text != want || err != wantErr {
		t.Errorf("P1, P3: Pack(%+v) = %q, %d; want %q, %d", before, text, err, want, wantErr)
	}
	if !same(n, before) {
		t.Errorf("P2: Pack(%+v) wrote into it: %+v", before, n)
	}
	return right
}

func checkUnpack(t *testing.T, s string) bool {
	t.Helper()
	n, err := Unpack(s)
	want, right := wantNode(s)
	wantErr := api.OK
	if !right {
		wantErr = api.ErrText
	}
	if !same(n, want) || err != wantErr {
		t.Errorf("P1, P4: Unpack(%.60q) = %+v, %d; want %+v, %d", s, n, err, want, wantErr)
	}
	return right
}

var rightTexts = []struct {
	n api.Node
	s string
}{
	{node(0, -1, 10000), "0------"},
	{node(0, 7, 20, 3, 40, 12, 9999), "0070020" + "00030040" + "00129999"},
	{node(2, -1, 10000, 0, 4, 500, 11), "2------" + "000004" + "050011"},
	{node(0, 1, 1), "0010001"},
	{node(0, 63, 9999), "0639999"},
	{node(0, 10, 2, 1, 0), "0100002" + "00010000"},
	{node(1, 1, 1, 0, 1), "1010001" + "000001"},
	{node(9, 63, 9999, 9998, 63), "9639999" + "999863"},
	{node(9, -1, 10000, 9999, 1), "9------" + "999901"},
	{node(0, -1, 10000, 1, 0, 2, 0, 3, 10, 4, 9999, 9999, 7),
		"0------" + "00010000" + "00020000" + "00030010" + "00049999" + "99990007"},
	{node(1, 5, 60, 0, 1, 10, 2, 20, 3, 30, 4, 40, 5, 50, 63),
		"1050060" + "000001" + "001002" + "002003" + "003004" + "004005" + "005063"},
	// One child may stand for several keys: a node alone does not tell that it is wrong.
	{node(3, -1, 10000, 0, 8, 1, 8), "3------" + "000008" + "000108"},
}

func TestRightNodes(t *testing.T) {
	for _, c := range rightTexts {
		s, err := Pack(c.n)
		if s != c.s || err != api.OK {
			t.Errorf("P3: Pack(%+v) = %q, %d; want %q", c.n, s, err, c.s)
		}
		n, err := Unpack(c.s)
		if !same(n, c.n) || err != api.OK {
			t.Errorf("P4: Unpack(%q) = %+v, %d; want %+v", c.s, n, err, c.n)
		}
	}
}

func TestWrongNodes(t *testing.T) {
	const least, most = math.MinInt, math.MaxInt
	for _, n := range []api.Node{
		{},
		node(-1, -1, 10000, 5, 5), node(10, -1, 10000, 5, 5), node(least, -1, 10000), node(most, -1, 10000, 5, 5),
		node(0, 5, 0), node(0, -1, 0), node(0, 5, -1), node(0, -1, 10001), node(0, 5, 10001), node(0, -1, most), node(0, 5, least),
		node(0, -1, 9999), node(0, -1, 1), node(0, 0, 20), node(0, 64, 20), node(0, -2, 20), node(0, most, 20), node(0, least, 20),
		node(0, 5, 10000), node(0, 0, 10000), node(0, -2, 10000),
		node(0, 5, 20, 20, 1), node(0, 5, 20, 21, 1), node(0, 5, 20, 3, 1, 20, 1), node(1, 5, 20, 0, 1, 20, 1),
		node(0, -1, 10000, 10000, 1), node(1, -1, 10000, 10000, 1), node(0, -1, 10000, most, 1), node(0, -1, 10000, least, 1),
		node(0, -1, 10000, 0, 1), node(0, -1, 10000, -1, 1), node(1, -1, 10000, -1, 1),
		node(0, -1, 10000, 5, 1, 5, 1), node(0, -1, 10000, 6, 1, 5, 1), node(1, -1, 10000, 5, 1, 5, 1), node(1, -1, 10000, 0, 1, 7, 1, 6, 1),
		node(0, -1, 10000, 5, -1), node(0, -1, 10000, 5, 10000), node(0, -1, 10000, 5, 5, 6, most), node(0, -1, 10000, 5, 5, 6, least),
		node(1, -1, 10000, 0, 0), node(1, -1, 10000, 0, 64), node(1, -1, 10000, 0, -1), node(1, -1, 10000, 0, 1, 1, 0), node(1, -1, 10000, 0, most),
		node(0, -1, 10000, 1, 1, 2, 2, 3, 3, 4, 4, 5, 5, 6, 6),
		node(1, -1, 10000), node(9, 5, 20),
		node(1, -1, 10000, 0, 1, 1, 1, 2, 1, 3, 1, 4, 1, 5, 1, 6, 1),
		{Link: -1, High: 10000, Keys: []int{1}},
		{Link: -1, High: 10000, Vals: []int{1}},
		{Link: -1, High: 10000, Keys: []int{1, 2}, Vals: []int{1}},
		{Level: 1, Link: -1, High: 10000, Keys: []int{0, 2}, Vals: []int{1, 2, 3}},
		{Link: -1, High: 10000, Keys: make([]int, 1000000), Vals: make([]int, 1000000)},
	} {
		s, err := Pack(n)
		if s != "" || err != api.ErrNode {
			t.Errorf("P1, P3: Pack(%.200s) = %q, %d; want ErrNode", fmt.Sprintf("%+v", n), s, err)
		}
	}
}

func TestWrongTexts(t *testing.T) {
	for _, s := range []string{
		"", "0", "0--", "0-----", "0-------", "-------", "x------", "1------", "9------",
		"0------0003004", "0------000", "0------0003", "0------00030040000", "1------00000", "1------00000100",
		"0--0020", "0--00200", "007----", "0070000", "0000020", "000----", "0640020", "0990020",
		"0-70020", "07-0020", "007-020", "007002-", "00700--", "007---0", "0+70020", "007+020", "007 020", "0 70020", "0_70020", "00x0020",
		"0070020" + "00120001" + "00030001", "0070020" + "00030001" + "00030001",
		"0070020" + "00200001", "0070020" + "00030001" + "00210001", "1070020" + "000001" + "002001",
		"0------" + "00000001", "0------" + "0001-001", "0------" + "00010+01", "0------" + "+0010001", "0------" + "000100:1", "0------" + "000100/1", "0------" + "0001----",
		"1------" + "000000", "1------" + "000064", "1------" + "0000--", "1------" + "----01", "1------" + "00000001",
		"0------" + strings.Repeat("00010001", 2), "0------000100010002000100030001000400010005000100060001",
		"1------" + "000001" + "000102" + "000203" + "000304" + "000405" + "000506" + "000607",
		"0------00010001\n", "\n0------", " 0------", "0------ ", "0------\x00", "0\u2010\u2010\u2010\u2010\u2010\u2010", "٠------", "０------",
		"\xff------", "0------\xff\xfe\xfd\xfc\xfb\xfa\xf9\xf8",
		strings.Repeat("0", 47), strings.Repeat("9", 43), strings.Repeat("-", 1000000), "0------" + strings.Repeat("0", 8000000),
	} {
		n, err := Unpack(s)
		if !same(n, api.Node{}) || err != api.ErrText {
			t.Errorf("P1, P4: Unpack(%.60q) = %+v, %d; want ErrText", s, n, err)
		}
	}
}

// Every number of every field, alone, in a node that is right elsewhere.
func TestEveryNumber(t *testing.T) {
	right := 0
	for i := -5; i <= 10005; i++ {
		for _, n := range []api.Node{
			node(i, -1, 10000, 5, 5), node(0, i, 20), node(1, i, 10000, 0, 1), node(0, 7, i), node(0, 7, i, 3, 1), node(0, -1, i),
			node(0, -1, 10000, i, 1), node(0, -1, 10000, 5, i), node(0, -1, 10000, 50, 1, i, 2), node(0, 3, 700, i, 1),
			node(1, -1, 10000, i, 1), node(1, -1, 10000, 0, i), node(9, -1, 10000, 50, 1, i, 2), node(1, 3, 700, i, 1),
		} {
			if !checkPack(t, n) {
				continue
			}
			right++
			s, _ := wantText(n)
			checkUnpack(t, s)
		}
	}
	if right < 70000 {
		t.Errorf("only %d right nodes were tried", right)
	}
}

// The edges of the fields against each other.
func TestEdgesTogether(t *testing.T) {
	lists := [][]int{nil, {}, {0}, {1}, {2}, {63}, {64}, {9998}, {9999}, {10000}, {-1}, {0, 1}, {1, 2}, {2, 1}, {1, 1}, {19, 20},
		{1, 2, 3, 4, 5}, {0, 1, 2, 3, 4}, {1, 2, 3, 4, 4}, {1, 2, 3, 4, 5, 6}, {0, 1, 2, 3, 4, 5}, {63, 63, 63, 63, 63, 63}, {1, 2, 3, 4, 5, 6, 7}}
	right := 0
	for _, level := range []int{-1, 0, 1, 9, 10} {
		for _, link := range []int{-2, -1, 0, 1, 63, 64} {
			for _, high := range []int{0, 1, 2, 20, 9999, 10000, 10001} {
				for _, keys := range lists {
					for _, vals := range lists {
						if checkPack(t, api.Node{Level: level, Link: link, High: high, Keys: keys, Vals: vals}) {
							right++
						}
					}
				}
			}
		}
	}
	if right < 500 {
		t.Errorf("only %d right nodes were tried", right)
	}
}

// Every text that is one byte away from a right one, and every piece of it.
func TestTextsNearby(t *testing.T) {
	right := 0
	for _, c := range rightTexts {
		for i := 0; i <= len(c.s); i++ {
			checkUnpack(t, c.s[:i])
			checkUnpack(t, c.s[i:])
			for b := 0; b < 256; b++ {
				checkUnpack(t, c.s[:i]+string([]byte{byte(b)})+c.s[i:])
				if i == len(c.s) {
					continue
				}
				if checkUnpack(t, c.s[:i]+string([]byte{byte(b)})+c.s[i+1:]) {
					right++
				}
			}
		}
		for _, d := range rightTexts {
			checkUnpack(t, c.s+d.s)
			checkUnpack(t, c.s+d.s[headWidth:])
		}
	}
	if right < 500 {
		t.Errorf("only %d right texts were tried", right)
	}
}

// Every text of up to 8 bytes out of the few that matter.
func TestShortTexts(t *testing.T) {
	texts := []string{""}
	for range 8 {
		var longer []string
		for _, s := range texts {
			checkUnpack(t, s)
			for _, b := range []string{"0", "1", "-", "x"} {
				longer = append(longer, s+b)
			}
		}
		texts = longer
	}
	for _, s := range texts {
		checkUnpack(t, s)
	}
}

func TestHandedInIsLeftAlone(t *testing.T) {
	keys, vals := []int{3, 12, 99, 98}, []int{40, 50, 97, 96}
	for i := 0; i <= 4; i++ {
		for level := 0; level <= 1; level++ {
			Pack(api.Node{Level: level, Link: -1, High: 10000, Keys: keys[:i], Vals: vals[:i]})
			if !slices.Equal(keys, []int{3, 12, 99, 98}) || !slices.Equal(vals, []int{40, 50, 97, 96}) {
				t.Fatalf("P2: Pack wrote into what it was handed: %v, %v", keys, vals)
			}
		}
	}
	// One list as Keys and Vals at once is as good as two.
	both := []int{3, 12}
	s, err := Pack(api.Node{Link: -1, High: 10000, Keys: both, Vals: both})
	if s != "0------"+"00030003"+"00120012" || err != api.OK {
		t.Errorf("P3: Pack of one list as Keys and Vals = %q, %d", s, err)
	}
}

func TestArgumentsAlone(t *testing.T) {
	keys, vals := []int{3, 12}, []int{40, 50}
	n := api.Node{Link: -1, High: 10000, Keys: keys, Vals: vals}
	first, _ := Pack(n)
	keys[0], vals[1] = 4, 51
	second, _ := Pack(n)
	keys[0], vals[1] = 3, 50
	Pack(api.Node{})
	Unpack("")
	third, _ := Pack(n)
	if first != "0------"+"00030040"+"00120050" || second != "0------"+"00040040"+"00120051" || third != first {
		t.Errorf("P2: Pack hangs on more than its argument: %q, %q, %q", first, second, third)
	}
}

func TestListsThatComeOutAreFresh(t *testing.T) {
	for _, c := range rightTexts {
		a, _ := Unpack(c.s)
		b, _ := Unpack(c.s)
		spoil(a.Keys)
		if !slices.Equal(a.Vals, c.n.Vals) {
			t.Errorf("P2: Unpack(%q): Keys and Vals share memory: %v", c.s, a.Vals)
		}
		spoil(a.Vals)
		if !same(b, c.n) {
			t.Errorf("P2: Unpack(%q): two answers share memory: %+v", c.s, b)
		}
		again, _ := Unpack(c.s)
		if !same(again, c.n) {
			t.Errorf("P2: Unpack(%q) answers otherwise later: %+v", c.s, again)
		}
	}
}

// spoil writes over a list and its spare room.
func spoil(list []int) {
	list = list[:cap(list)]
	for i := range list {
		list[i] = -7
	}
}

func FuzzUnpack(f *testing.F) {
	for _, c := range rightTexts {
		f.Add(c.s)
	}
	f.Fuzz(func(t *testing.T, s string) { checkUnpack(t, s) })
}
