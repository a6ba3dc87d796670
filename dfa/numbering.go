package dfa

// numbering numbers values from 0 on, in the order in which they are found.
type numbering[T comparable] struct {
	values  []T
	numbers map[T]int
}

// number returns the number of a value, a new one if the value has none.
func (n *numbering[T]) number(value T) int {
	number, ok := n.numbers[value]
	if !ok {
		number = len(n.values)
		n.numbers[value] = number
		n.values = append(n.values, value)
	}
	return number
}
