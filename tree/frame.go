package tree

import (
	"strconv"

	"sapling/api"
)

// state is what an operation knows between two accesses.
type state struct {
	op   api.Op
	step int // the number of the access that is wanted
	page int // the page that is to be read, or changed

	// What a Scan has seen: its keys and values, and its cuts, in two lists as well.
	keys, vals     []int
	belows, points []int

	// The text of the page that a Put or a Drop is to change, and its version; empty, while the
	// page is to be read.
	seen    string
	version int

	// Pages that a Put has made, and to which nothing leads, with their versions. The first of
	// them, as many as are laid, have their text for the split that is under way.
	spares, spareVersions []int
	laid                  int

	// From level 1 on: the Put took effect at the access point, and split nodes below this level.
	// What is left to do is to enter the page child here, for the keys from low on.
	level, low, child, point int
}

// maxSpares is the most that a split takes: that of the root.
const maxSpares = 2

// frameText writes a state's numbers, each with a comma behind it, each list with its length
// ahead of it, and so the text of the page, which stands last: so everything ends, and a frame
// that was cut off is no other frame.
func frameText(s state) string {
	text := ""
	text = addNumber(text, s.op.Kind)
	text = addNumber(text, s.op.Key)
	text = addNumber(text, s.op.Value)
	text = addNumber(text, s.step)
	text = addNumber(text, s.page)
	text = addList(text, s.keys)
	text = addList(text, s.vals)
	text = addList(text, s.belows)
	text = addList(text, s.points)
	text = addNumber(text, s.version)
	text = addList(text, s.spares)
	text = addList(text, s.spareVersions)
	text = addNumber(text, s.laid)
	text = addNumber(text, s.level)
	text = addNumber(text, s.low)
	text = addNumber(text, s.child)
	text = addNumber(text, s.point)
	text = addNumber(text, len(s.seen))
	return text + s.seen
}

func addNumber(text string, number int) string {
	return text + strconv.Itoa(number) + ","
}

func addList(text string, list []int) string {
	text = addNumber(text, len(list))
	for i := 0; i < len(list); i++ {
		text = addNumber(text, list[i])
	}
	return text
}

// readFrame gives back a frame's state; false: it is no frame.
func readFrame(frame string) (state, bool) {
	r := reader{text: frame}
	s := state{}
	s.op.Kind = r.number()
	s.op.Key = r.number()
	s.op.Value = r.number()
	s.step = r.number()
	s.page = r.number()
	s.keys = r.list()
	s.vals = r.list()
	s.belows = r.list()
	s.points = r.list()
	s.version = r.number()
	s.spares = r.list()
	s.spareVersions = r.list()
	s.laid = r.number()
	s.level = r.number()
	s.low = r.number()
	s.child = r.number()
	s.point = r.number()
	s.seen = r.rest()
	if r.bad || !rightState(s) {
		return state{}, false
	}
	return s, true
}

// rightState tells whether an operation may know this; what the text seen has to be, planned tells.
func rightState(s state) bool {
	// So that the access behind this one can be counted too.
	if s.step == maxInt || s.page >= api.MaxPages {
		return false
	}
	if !rightOp(s.op) {
		return false
	}
	if !rightScan(s) {
		return false
	}
	if !rightSeen(s) {
		return false
	}
	if !rightSpares(s) {
		return false
	}
	return rightEntry(s)
}

// rightScan tells whether a Scan may have seen this and still be under way; nothing else sees anything.
func rightScan(s state) bool {
	if s.op.Kind != api.Scan {
		return len(s.keys)+len(s.vals)+len(s.belows)+len(s.points) == 0
	}
	if len(s.keys) != len(s.vals) || len(s.keys) >= api.MaxScan {
		return false
	}
	if len(s.belows) != len(s.points) {
		return false
	}
	// A key must be left to look for, from the last Below on: as it is a key, every node that
	// does not reach up to it has a link.
	least := s.op.Key + 1
	for i := 0; i < len(s.belows); i++ {
		if s.belows[i] < least || s.belows[i] > s.op.Value {
			return false
		}
		least = s.belows[i] + 1
	}
	return true
}

// rightSeen tells whether the operation may be about to change a page, or about to read one.
func rightSeen(s state) bool {
	if s.seen == "" {
		return s.version == 0 && s.laid == 0
	}
	return s.op.Kind == api.Put || s.op.Kind == api.Drop
}

// rightSpares tells whether the operation may have made these pages.
func rightSpares(s state) bool {
	if s.op.Kind != api.Put && len(s.spares) > 0 {
		return false
	}
	if len(s.spares) != len(s.spareVersions) || len(s.spares) > maxSpares || s.laid > len(s.spares) {
		return false
	}
	for i := 0; i < len(s.spares); i++ {
		// So that the version behind the next Swap is a number too.
		if !isChild(s.spares[i]) || s.spareVersions[i] == maxInt {
			return false
		}
	}
	return true
}

// rightEntry tells whether this may be left to enter.
func rightEntry(s state) bool {
	if s.level == 0 {
		return s.low == 0 && s.child == 0 && s.point == 0
	}
	if s.op.Kind != api.Put || s.level > api.MaxLevel || s.point >= s.step {
		return false
	}
	return s.low >= 1 && s.low <= api.MaxKey && isChild(s.child)
}

// isChild tells whether a link or a child can be this page: all can but the root.
func isChild(number int) bool {
	return number >= 1 && number < api.MaxPages
}
