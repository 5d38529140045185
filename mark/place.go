package mark

// Place answers the first place at which both differ, where the shorter one ends if that is all by which they do, and -1 if they don't.
func Place(a, b []byte) int {
	short := min(len(a), len(b))
	for i := range short {
		if a[i] != b[i] {
			return i
		}
	}
	if len(a) != len(b) {
		return short
	}
	return -1
}
