package des

// falling puts a row of numbers behind a table, each 8 less than the one ahead.
func falling(table []int, from, many int) []int {
	for i := range many {
		table = append(table, from-8*i)
	}
	return table
}

// first is the table by which a block goes in.
func first() []int {
	var table []int
	for _, from := range [8]int{58, 60, 62, 64, 57, 59, 61, 63} {
		table = falling(table, from, 8)
	}
	return table
}

// last is the table by which a block goes out: it takes back what the first one does.
func last() []int {
	table := make([]int, blockBits)
	for i, from := range first() {
		table[from-1] = i + 1
	}
	return table
}

// wide is the table that makes a half as wide as a round's key.
func wide() []int {
	var table []int
	for row := range 8 {
		for i := range 6 {
			// Ahead of the first bit stands the last one, and behind the last one the first one.
			table = append(table, (4*row+i+wordBits-1)%wordBits+1)
		}
	}
	return table
}

// mixing is the table by which the boxes' digits are mixed.
func mixing() []int {
	var table []int
	table = append(table, 16, 7, 20, 21, 29, 12, 28, 17)
	table = append(table, 1, 15, 23, 26, 5, 18, 31, 10)
	table = append(table, 2, 8, 24, 14, 32, 27, 3, 9)
	table = append(table, 19, 13, 30, 6, 22, 11, 4, 25)
	return table
}

// ofKeys is the table by which a key's bits are taken: four rows a half, of which the last one is short.
func ofKeys() []int {
	var table []int
	for _, half := range [2][4]int{{57, 58, 59, 60}, {63, 62, 61, 28}} {
		for _, from := range half[:3] {
			table = falling(table, from, 8)
		}
		table = falling(table, half[3], 4)
	}
	return table
}

// ofRounds is the table by which a round's key is taken.
func ofRounds() []int {
	var table []int
	table = append(table, 14, 17, 11, 24, 1, 5, 3, 28, 15, 6, 21, 10)
	table = append(table, 23, 19, 12, 4, 26, 8, 16, 7, 27, 20, 13, 2)
	table = append(table, 41, 52, 31, 37, 47, 55, 30, 40, 51, 45, 33, 48)
	table = append(table, 44, 49, 39, 56, 34, 53, 46, 42, 50, 36, 29, 32)
	return table
}
