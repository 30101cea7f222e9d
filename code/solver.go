package code

// equation says that a sum of rows of data is a sum of given rows.
type equation struct {
	data, given uint64
}

// solver is what is known. The lowest row of data in each equation stands in none behind it.
type solver struct {
	known []equation
}

// add takes up an equation, if it says what is not known yet.
func (v *solver) add(e equation) {
	left := v.reduce(e)
	if left.data != 0 {
		v.known = append(v.known, left)
	}
}

// reduce takes away from an equation what is known: of rows of data that follow from the given ones none are left.
func (v *solver) reduce(e equation) equation {
	for _, k := range v.known {
		lowest := k.data & -k.data
		if e.data&lowest != 0 {
			e.data ^= k.data
			e.given ^= k.given
		}
	}
	return e
}
