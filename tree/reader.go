package tree

const maxInt = int(^uint(0) >> 1)

// reader goes along a frame. Once bad, it stays bad, and what it reads is worth nothing.
type reader struct {
	text string
	at   int
	bad  bool
}

func (r *reader) number() int {
	sum := 0
	start := r.at
	for r.at < len(r.text) && r.text[r.at] >= '0' && r.text[r.at] <= '9' {
		digit := int(r.text[r.at] - '0')
		if sum > (maxInt-digit)/10 {
			r.bad = true
			return 0
		}
		sum = 10*sum + digit
		r.at++
	}
	if r.at == start || r.at >= len(r.text) || r.text[r.at] != ',' {
		r.bad = true
		return 0
	}
	r.at++
	return sum
}

// rest is all that stands behind its own length.
func (r *reader) rest() string {
	count := r.number()
	if count != len(r.text)-r.at {
		r.bad = true
	}
	return r.text[r.at:]
}

func (r *reader) list() []int {
	count := r.number()
	var list []int
	// A count may be far greater than what follows: the first number that is not there ends it.
	for i := 0; i < count && !r.bad; i++ {
		number := r.number()
		list = append(list, number)
	}
	return list
}
