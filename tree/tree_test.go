package tree

import (
	"math"
	"reflect"
	"strings"
	"testing"

	"sapling/api"
	"sapling/page"
)

var oddNumbers = []int{math.MinInt, -9999, -1, 0, 1, 2, 3, 4, 5, 6, 63, 64, 9998, 9999, 10000, 10001, math.MaxInt}

var oddTexts = []string{"", "0", "-", ",", "0,", "0------", "2------000004050011", "1------500001", "\x00", "\xff\xfe",
	strings.Repeat("0", 47), strings.Repeat("9", 100000), strings.Repeat("0,", 100000)}

func TestFirst(t *testing.T) {
	n, err := page.Unpack(First())
	if First() != "0------" || err != api.OK || n.Level != 0 || n.Link != -1 || n.High != 10000 || len(n.Keys) != 0 || len(n.Vals) != 0 {
		t.Errorf("P5: First() = %q: %+v, %d", First(), n, err)
	}
}

// rightByWords is the document's word on when an operation is right.
func rightByWords(op api.Op) bool {
	isKey := 1 <= op.Key && op.Key <= 9999
	isValue := 0 <= op.Value && op.Value <= 9999
	isEnd := op.Key <= op.Value && op.Value <= 9999
	return isKey && (op.Kind == 1 || op.Kind == 2 && isValue || op.Kind == 3 || op.Kind == 4 && isEnd)
}

func checkBegin(t *testing.T, op api.Op) bool {
	t.Helper()
	frame, err := Begin(op)
	again, errAgain := Begin(op)
	if again != frame || errAgain != err {
		t.Errorf("P2: Begin(%+v) answers %q, %d and then %q, %d", op, frame, err, again, errAgain)
	}
	if !rightByWords(op) {
		if frame != "" || err != api.ErrOp {
			t.Errorf("P6: Begin(%+v) = %q, %d; want ErrOp", op, frame, err)
		}
		return false
	}
	ask, errNext := Next(frame)
	if err != api.OK || errNext != api.OK || ask.Kind != api.Read || ask.Page != 0 {
		t.Errorf("P6: Begin(%+v) = %q, %d: its first access is %+v, %d", op, frame, err, ask, errNext)
	}
	_, _, _, errTell := Tell(frame, api.Reply{Text: First()})
	if errTell != api.OK {
		t.Errorf("P6: %+v: Tell: %d", op, errTell)
	}
	return true
}

func TestBegin(t *testing.T) {
	t.Parallel()
	right := 0
	for _, kind := range oddNumbers {
		for _, key := range oddNumbers {
			for _, value := range oddNumbers {
				if checkBegin(t, api.Op{Kind: kind, Key: key, Value: value}) {
					right++
				}
			}
		}
	}
	for number := -3; number <= 10003; number++ {
		for kind := 0; kind <= 5; kind++ {
			for _, op := range []api.Op{{Kind: kind, Key: number, Value: 5000}, {Kind: kind, Key: 5000, Value: number}, {Kind: number, Key: 5, Value: 5}} {
				if checkBegin(t, op) {
					right++
				}
			}
		}
	}
	if right < 60000 {
		t.Errorf("only %d right operations were tried", right)
	}
}

func TestDocumentsOperations(t *testing.T) {
	for _, op := range []api.Op{{Kind: api.Get, Key: 0}, {Kind: api.Put, Key: 5, Value: 10000}, {Kind: api.Scan}, {Kind: api.Scan, Key: 5, Value: 4}, {Kind: api.Scan, Key: 5}} {
		frame, err := Begin(op)
		if frame != "" || err != api.ErrOp {
			t.Errorf("P6: Begin(%+v) = %q, %d; want ErrOp", op, frame, err)
		}
	}
	for _, op := range []api.Op{{Kind: api.Drop, Key: 5, Value: -1}, {Kind: api.Scan, Key: 5, Value: 5}} {
		_, err := Begin(op)
		if err != api.OK {
			t.Errorf("P6: Begin(%+v): %d", op, err)
		}
	}
}

// The values of a Get and a Drop are not looked at: whatever they are, everything goes alike.
func TestValueIsNotLookedAt(t *testing.T) {
	for _, kind := range []int{api.Get, api.Drop} {
		for _, value := range oddNumbers {
			p := linkedLeaf()
			answer, asks := alone(t, p, api.Op{Kind: kind, Key: 12, Value: value})
			q := linkedLeaf()
			want, wantAsks := alone(t, q, api.Op{Kind: kind, Key: 12})
			if !reflect.DeepEqual(answer, want) || !reflect.DeepEqual(asks, wantAsks) || !p.same(q) {
				t.Errorf("P6: kind %d with Value %d: %+v, want %+v", kind, value, answer, want)
			}
		}
	}
}

func TestOddFrames(t *testing.T) {
	for _, frame := range oddTexts {
		checkNext(t, frame)
		for _, text := range oddTexts {
			for _, number := range oddNumbers {
				checkTell(t, frame, api.Reply{Version: number, Page: number, Text: text})
				checkTell(t, frame, api.Reply{Version: number, Page: -1, Text: text, Done: true})
			}
		}
	}
}

func checkNext(t *testing.T, frame string) {
	t.Helper()
	ask, err := Next(frame)
	if err != api.OK && ask != (api.Ask{}) {
		t.Errorf("P1: Next(%.60q) = %+v beside %d", frame, ask, err)
	}
	askAgain, errAgain := Next(frame)
	if askAgain != ask || errAgain != err {
		t.Errorf("P2: Next(%.60q) answers twice not alike", frame)
	}
}

func checkTell(t *testing.T, frame string, r api.Reply) {
	t.Helper()
	next, answer, ended, err := Tell(frame, r)
	if err != api.OK && (next != "" || ended || !reflect.DeepEqual(answer, api.Answer{})) {
		t.Errorf("P1: Tell(%.60q) = %q, %+v, %v beside %d", frame, next, answer, ended, err)
	}
	nextAgain, answerAgain, endedAgain, errAgain := Tell(frame, r)
	if nextAgain != next || endedAgain != ended || errAgain != err || !reflect.DeepEqual(answerAgain, answer) {
		t.Errorf("P2: Tell(%.60q) answers twice not alike", frame)
	}
}

// framesOf are all frames of an operation that moves alone.
func framesOf(t *testing.T, p *pages, op api.Op) []string {
	t.Helper()
	var frames []string
	for c := begin(t, op); !c.ended; c.move(t, p, len(frames)) {
		frames = append(frames, c.frame)
	}
	return frames
}

// manyFrames are frames of all sorts of operations, at all sorts of their accesses.
func manyFrames(t *testing.T) []string {
	t.Helper()
	var frames []string
	for kind := api.Get; kind <= api.Scan; kind++ {
		frames = append(frames, framesOf(t, linkedAll(), api.Op{Kind: kind, Key: 9, Value: 9999})...)
	}
	for _, count := range []int{5, 8, 20} {
		frames = append(frames, framesOf(t, after(t, tens(count)...), put(10*count+1, 7))...)
	}
	// A split that comes too late, and has pages over.
	p := after(t, tens(5)...)
	c := begin(t, put(60, 7))
	c.toSwap(t, p)
	alone(t, p, put(50, 1))
	for ; !c.ended; c.move(t, p, 0) {
		frames = append(frames, c.frame)
	}
	return frames
}

// Replies that no page would give, told to frames that are right.
func TestOddReplies(t *testing.T) {
	t.Parallel()
	for _, frame := range manyFrames(t) {
		for _, text := range oddTexts {
			for _, number := range oddNumbers {
				checkOddReply(t, frame, api.Reply{Version: number, Page: number, Text: text})
			}
		}
		for _, text := range append(linkedAll().texts[:7], fourFull().texts[:5]...) {
			for _, number := range oddNumbers {
				checkOddReply(t, frame, api.Reply{Version: number, Page: number, Text: text})
				checkOddReply(t, frame, api.Reply{Version: number, Text: text, Done: true})
			}
		}
		checkOddReply(t, frame, api.Reply{Version: -1})
	}
}

// checkOddReply: whatever a right frame is told, what comes of it is a frame again.
func checkOddReply(t *testing.T, frame string, r api.Reply) {
	t.Helper()
	checkTell(t, frame, r)
	next, _, ended, err := Tell(frame, r)
	if ended || err != api.OK {
		return
	}
	_, errNext := Next(next)
	if errNext != api.OK {
		t.Errorf("P6: Tell(%q, %+v) = %q: Next: %d", frame, r, next, errNext)
	}
}

// Frames that are one byte away from a right one, and pieces of them.
func TestFramesNearby(t *testing.T) {
	t.Parallel()
	for _, frame := range manyFrames(t) {
		for i := range frame {
			checkFrame(t, frame[:i])
			checkFrame(t, frame[i:])
			for _, b := range []string{"", "0", "1", "7", "9", ",", "-", "+", " ", "\x00", "\xff", "99999999999999999999", "9223372036854775807", "18446744073709551616"} {
				checkFrame(t, frame[:i]+b+frame[i:])
				checkFrame(t, frame[:i]+b+frame[i+1:])
			}
		}
	}
}

func checkFrame(t *testing.T, frame string) {
	t.Helper()
	checkNext(t, frame)
	for _, text := range []string{"", "0------", "0050020" + "00090001", "1------" + "999901", "1050020" + "000007", "0------" + "00010001" + "00100001" + "99990001"} {
		checkTell(t, frame, api.Reply{Text: text})
	}
	checkTell(t, frame, api.Reply{Done: true})
	checkTell(t, frame, api.Reply{Page: -1})
	checkTell(t, frame, api.Reply{Page: 63})
}

// The document leaves open what is answered to frames that nobody answered: this is what the program does.
func TestNoFrames(t *testing.T) {
	scan := scan(5, 20)
	leaf, full := "0070020"+"00050006", "0070020"+"00050006"+"00060006"+"00070006"+"00100006"+"00110006"
	inner, one := "1070020"+"000006", []int{1}
	eleven := []int{5, 6, 7, 8, 9, 10, 11, 12, 13, 14, 15}
	for _, s := range []state{
		{op: scan}, {op: scan, step: math.MaxInt - 9, page: 63}, {op: scan, keys: eleven, vals: eleven},
		{op: scan, belows: []int{6, 7, 20}, points: []int{2, 3, 4}}, {op: scan, step: math.MaxInt - 1},
		{op: put(5, 6), seen: leaf}, {op: drop(5), seen: leaf, page: 63, version: math.MaxInt},
		{op: put(5, 6), spares: []int{1, 63}, spareVersions: []int{0, math.MaxInt - 1}}, {op: put(5, 6), seen: leaf, spares: []int{7}, spareVersions: []int{9}},
		{op: put(9, 6), seen: full}, {op: put(9, 6), seen: full, page: 8, spares: []int{7}, spareVersions: []int{0}, laid: 1},
		{op: put(9, 6), seen: full, spares: []int{7, 9}, spareVersions: []int{0, 4}, laid: 2},
		{op: put(5, 6), step: 7, level: 1, low: 1, child: 1, point: 0}, {op: put(5, 6), step: 7, level: 9, low: 9999, child: 63, point: 6},
		{op: put(5, 6), step: 7, level: 1, low: 8, child: 9, seen: inner}, {op: put(5, 6), step: 7, level: 1, low: 9, child: 9, seen: inner, spares: []int{7}, spareVersions: []int{0}},
	} {
		_, err := Next(frameText(s))
		if err != api.OK {
			t.Errorf("Next of the frame of %+v: %d", s, err)
		}
	}
	frames := []string{"", "0", ",", frameText(state{op: scan}) + "0,", "0" + frameText(state{}), "," + frameText(state{op: scan})}
	for _, s := range []state{
		{}, {op: api.Op{Kind: api.Scan, Key: 5, Value: 4}}, {op: scan, page: 64}, {op: scan, page: -1}, {op: scan, step: -1},
		{op: scan, keys: eleven, vals: eleven[1:]}, {op: scan, keys: append(eleven, 16), vals: append(eleven, 16)},
		{op: scan, belows: []int{6, 7}, points: []int{2}}, {op: scan, belows: []int{5}, points: []int{2}}, {op: scan, belows: []int{21}, points: []int{2}},
		{op: scan, belows: []int{7, 7}, points: []int{2, 3}}, {op: scan, step: math.MaxInt}, {op: scan, version: -1},
		{op: get(5), belows: []int{6}, points: []int{1}}, {op: put(5, 20), belows: []int{6}, points: []int{1}}, {op: drop(5), keys: eleven, vals: eleven},
		{op: get(5), seen: leaf}, {op: scan, seen: leaf}, {op: put(5, 6), seen: "0"}, {op: put(5, 6), seen: inner}, {op: put(20, 6), seen: leaf},
		{op: drop(20), seen: leaf}, {op: put(20, 6), seen: full}, {op: put(5, 6), spares: one, spareVersions: one, laid: 1},
		{op: put(5, 6), version: 1}, {op: put(5, 6), laid: 1}, {op: put(5, 6), seen: leaf + ","}, {op: put(9, 6), seen: full, laid: 1},
		{op: get(5), spares: one, spareVersions: one}, {op: drop(5), spares: one, spareVersions: one}, {op: put(5, 6), spares: one}, {op: put(5, 6), spareVersions: one},
		{op: put(5, 6), spares: []int{0}, spareVersions: one}, {op: put(5, 6), spares: []int{64}, spareVersions: one}, {op: put(5, 6), spares: one, spareVersions: []int{math.MaxInt}},
		{op: put(5, 6), spares: eleven[:3], spareVersions: eleven[:3]}, {op: put(5, 6), seen: leaf, spares: one, spareVersions: one, laid: 1},
		{op: put(9, 6), seen: full, page: 8, spares: []int{7, 9}, spareVersions: []int{0, 4}, laid: 2},
		{op: put(5, 6), low: 1}, {op: put(5, 6), child: 1}, {op: put(5, 6), step: 7, point: 1}, {op: put(5, 6), step: 7, level: 10, low: 1, child: 1},
		{op: drop(5), step: 7, level: 1, low: 1, child: 1}, {op: get(5), step: 7, level: 1, low: 1, child: 1}, {op: scan, step: 7, level: 1, low: 1, child: 1},
		{op: put(5, 6), step: 7, level: 1, low: 0, child: 1}, {op: put(5, 6), step: 7, level: 1, low: 10000, child: 1},
		{op: put(5, 6), step: 7, level: 1, low: 1, child: 0}, {op: put(5, 6), step: 7, level: 1, low: 1, child: 64}, {op: put(5, 6), step: 7, level: 1, low: 1, child: 1, point: 7},
		{op: put(5, 6), step: 7, level: 1, low: 8, child: 9, seen: leaf}, {op: put(5, 6), step: 7, level: 2, low: 8, child: 9, seen: inner}, {op: put(5, 6), step: 7, level: 1, low: 20, child: 9, seen: inner},
	} {
		frames = append(frames, frameText(s))
	}
	for _, step := range []string{"", "x", "9223372036854775808", "99999999999999999999", "-1", "+1"} {
		frames = append(frames, strings.Replace(frameText(state{op: scan, step: 777}), "777", step, 1))
	}
	swap := frameText(state{op: put(5, 6), version: 777, seen: leaf})
	frames = append(frames, swap+"00070007", swap[:len(swap)-8], swap[:len(swap)-len(leaf)])
	for _, frame := range frames {
		_, errNext := Next(frame)
		_, _, _, errTell := Tell(frame, api.Reply{Text: First()})
		if errNext != api.ErrFrame || errTell != api.ErrFrame {
			t.Errorf("%q is no frame: Next %d, Tell %d", frame, errNext, errTell)
		}
	}
}

func FuzzTell(f *testing.F) {
	for _, s := range []state{
		{op: scan(9, 9999), step: 3, page: 4, keys: []int{9}, vals: []int{90}, belows: []int{10}, points: []int{2}},
		{op: get(9)}, {op: put(9, 1), step: 3, page: 4}, {op: drop(10), step: 4, page: 4, version: 7, seen: "0------00100001"},
		{op: put(9, 1), step: 4, version: 7, seen: "0------00100001", spares: []int{3}, spareVersions: []int{2}},
		{op: put(9, 1), step: 9, level: 1, low: 10, child: 7, point: 5, version: 7, seen: "1------000001"},
	} {
		f.Add(frameText(s), 0, 0, "0------00100001", false)
		f.Add(frameText(s), 7, 5, "1------000001", true)
	}
	f.Fuzz(func(t *testing.T, frame string, version, number int, text string, done bool) {
		checkNext(t, frame)
		checkTell(t, frame, api.Reply{Version: version, Page: number, Text: text, Done: done})
	})
}
