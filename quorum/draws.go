package quorum

// draws is the number out of which the next draw is made.
type draws uint64

const (
	first  draws = 1
	times  draws = 1103515245
	more   draws = 12345
	digits       = 31 // that the number keeps
	small        = 8  // lowest digits, which a draw leaves out
)

// next makes a draw.
func (d *draws) next() int {
	*d = (times**d + more) & (1<<digits - 1)
	return int(*d >> small)
}
