package tree

import (
	"math"
	"reflect"
	"strings"
	"testing"

	"sapling/api"
)

var oddNumbers = []int{math.MinInt, -1, 0, 1, 2, 3, 4, 5, 63, 64, 9999, 10000, math.MaxInt}

var oddTexts = []string{"", "0", "-", "0------", "2------000004050011", "\x00", "\xff\xfe", strings.Repeat("0", 47), strings.Repeat("9", 100000)}

func TestOddOperations(t *testing.T) {
	for _, kind := range oddNumbers {
		for _, key := range oddNumbers {
			for _, value := range oddNumbers {
				op := api.Op{Kind: kind, Key: key, Value: value}
				frame, err := Begin(op)
				if err != api.OK && frame != "" {
					t.Errorf("P1: Begin(%+v) = %q beside %d", op, frame, err)
				}
				again, errAgain := Begin(op)
				if again != frame || errAgain != err {
					t.Errorf("P2: Begin(%+v) answers %q, %d and then %q, %d", op, frame, err, again, errAgain)
				}
			}
		}
	}
}

func TestOddFrames(t *testing.T) {
	for _, frame := range oddTexts {
		ask, err := Next(frame)
		if err != api.OK && ask != (api.Ask{}) {
			t.Errorf("P1: Next(%.60q) = %+v beside %d", frame, ask, err)
		}
		askAgain, errAgain := Next(frame)
		if askAgain != ask || errAgain != err {
			t.Errorf("P2: Next(%.60q) answers twice not alike", frame)
		}
		for _, text := range oddTexts {
			for _, number := range oddNumbers {
				checkTell(t, frame, api.Reply{Version: number, Page: number, Text: text})
				checkTell(t, frame, api.Reply{Version: number, Page: -1, Text: text, Done: true})
			}
		}
	}
}

func checkTell(t *testing.T, frame string, r api.Reply) {
	t.Helper()
	next, answer, ended, err := Tell(frame, r)
	if err != api.OK && (next != "" || ended || !reflect.DeepEqual(answer, api.Answer{})) {
		t.Errorf("P1: Tell(%.60q) = %q, %+v, %v beside %d", frame, next, answer, ended, err)
	}
	nextAgain, answerAgain, endedAgain, errAgain := Tell(frame, r)
	if nextAgain != next || endedAgain != ended || errAgain != err || !reflect.DeepEqual(answerAgain, answer) {
		t.Errorf("P2: Tell(%.60q) answers twice not alike", frame)
	}
}
