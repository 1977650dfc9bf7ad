package nodes

// span is how many elements a list may have.
type span struct{ least, most int }

// endless is the most of a list that may have any number of elements.
const endless = -1

func exactly(n int) span {
	return span{n, n}
}

func atLeast(n int) span {
	return span{n, endless}
}

func upTo(n int) span {
	return span{0, n}
}

func (s span) holds(n int) bool {
	return n >= s.least && (s.most == endless || n <= s.most)
}
