package tree

import (
	"strconv"

	"sapling/api"
	"sapling/page"
)

// state is what an operation knows between two accesses.
type state struct {
	op   api.Op
	step int // the number of the access that is wanted
	page int // the page that is to be read, or swapped

	// What a Scan has seen: its keys and values, and its cuts, in two lists as well.
	keys, vals     []int
	belows, points []int

	// What a Put or a Drop is to swap its leaf for; empty, while a page is to be read. Beside it:
	// the version that the leaf had, and what it had for the key.
	swap    string
	version int
	found   bool
	value   int
}

const maxInt = int(^uint(0) >> 1)

// frameText writes a state's numbers, each with a comma behind it, each list with its length
// ahead of it, and so the text of a swap, which stands last: so everything ends, and a frame that
// was cut off is no other frame.
func frameText(s state) string {
	text := ""
	text = addNumber(text, s.op.Kind)
	text = addNumber(text, s.op.Key)
	text = addNumber(text, s.op.Value)
	text = addNumber(text, s.step)
	text = addNumber(text, s.page)
	text = addList(text, s.keys)
	text = addList(text, s.vals)
	text = addList(text, s.belows)
	text = addList(text, s.points)
	text = addNumber(text, s.version)
	text = addFlag(text, s.found)
	text = addNumber(text, s.value)
	text = addNumber(text, len(s.swap))
	return text + s.swap
}

func addNumber(text string, number int) string {
	return text + strconv.Itoa(number) + ","
}

func addFlag(text string, flag bool) string {
	if flag {
		return addNumber(text, 1)
	}
	return addNumber(text, 0)
}

func addList(text string, list []int) string {
	text = addNumber(text, len(list))
	for i := 0; i < len(list); i++ {
		text = addNumber(text, list[i])
	}
	return text
}

// readFrame gives back a frame's state; false: it is no frame.
func readFrame(frame string) (state, bool) {
	r := reader{text: frame}
	s := state{}
	s.op.Kind = r.number()
	s.op.Key = r.number()
	s.op.Value = r.number()
	s.step = r.number()
	s.page = r.number()
	s.keys = r.list()
	s.vals = r.list()
	s.belows = r.list()
	s.points = r.list()
	s.version = r.number()
	s.found = r.flag()
	s.value = r.number()
	s.swap = r.rest()
	if r.bad || s.page >= api.MaxPages || !rightOp(s.op) {
		return state{}, false
	}
	// So that the access behind this one can be counted too.
	if s.step == maxInt {
		return state{}, false
	}
	if !rightSeen(s) {
		return state{}, false
	}
	if !rightSwap(s) {
		return state{}, false
	}
	return s, true
}

// rightSeen tells whether a Scan may have seen this and still be under way; nothing else sees anything.
func rightSeen(s state) bool {
	if s.op.Kind != api.Scan {
		return len(s.keys)+len(s.vals)+len(s.belows)+len(s.points) == 0
	}
	if len(s.keys) != len(s.vals) || len(s.keys) >= api.MaxScan {
		return false
	}
	if len(s.belows) != len(s.points) {
		return false
	}
	// A key must be left to look for, from the last Below on: as it is a key, every node that
	// does not reach up to it has a link.
	least := s.op.Key + 1
	for i := 0; i < len(s.belows); i++ {
		if s.belows[i] < least || s.belows[i] > s.op.Value {
			return false
		}
		least = s.belows[i] + 1
	}
	return true
}

// rightSwap tells whether the operation may want this swap, or none.
func rightSwap(s state) bool {
	if s.swap == "" {
		return s.version == 0 && !s.found && s.value == 0
	}
	if s.op.Kind != api.Put && s.op.Kind != api.Drop {
		return false
	}
	if s.value > api.MaxValue || (!s.found && s.value != 0) {
		return false
	}
	leaf, err := page.Unpack(s.swap)
	return err == api.OK && leaf.Level == 0
}

// reader goes along a frame. Once bad, it stays bad, and what it reads is worth nothing.
type reader struct {
	text string
	at   int
	bad  bool
}

func (r *reader) number() int {
	sum := 0
	start := r.at
	for r.at < len(r.text) && r.text[r.at] >= '0' && r.text[r.at] <= '9' {
		digit := int(r.text[r.at] - '0')
		if sum > (maxInt-digit)/10 {
			r.bad = true
			return 0
		}
		sum = 10*sum + digit
		r.at++
	}
	if r.at == start || r.at >= len(r.text) || r.text[r.at] != ',' {
		r.bad = true
		return 0
	}
	r.at++
	return sum
}

func (r *reader) flag() bool {
	number := r.number()
	if number > 1 {
		r.bad = true
	}
	return number == 1
}

// rest is all that stands behind its own length.
func (r *reader) rest() string {
	count := r.number()
	if count != len(r.text)-r.at {
		r.bad = true
	}
	return r.text[r.at:]
}

func (r *reader) list() []int {
	count := r.number()
	var list []int
	// A count may be far greater than what follows: the first number that is not there ends it.
	for i := 0; i < count && !r.bad; i++ {
		number := r.number()
		list = append(list, number)
	}
	return list
}
