package jobs

import (
	"slices"
	"strconv"
	"strings"

	"winnow/api"
)

// Combine tells fewer values that mean the same.
func Combine(kind int, values []string) []string {
	if Check(kind) != api.OK || len(values) == 0 {
		return nil
	}
	combined := [...]func(values []string) []string{
		api.JobCount:    total,
		api.JobIndex:    asTheyAre,
		api.JobSum:      total,
		api.JobSort:     asTheyAre,
		api.JobDistinct: first,
	}
	return combined[kind](values)
}

// Reduce tells the values of the output.
func Reduce(kind int, values []string) []string {
	if Check(kind) != api.OK || len(values) == 0 {
		return nil
	}
	reduced := [...]func(values []string) []string{
		api.JobCount:    total,
		api.JobIndex:    rising,
		api.JobSum:      total,
		api.JobSort:     asTheyAre,
		api.JobDistinct: first,
	}
	return reduced[kind](values)
}

// total tells the sum, alone.
func total(values []string) []string {
	var sum int64
	for _, number := range numbersOf(values) {
		sum += number
	}
	return []string{strconv.FormatInt(sum, 10)}
}

// rising tells the numbers among the values, each once.
func rising(values []string) []string {
	numbers := numbersOf(values)
	slices.Sort(numbers)
	var texts []string
	for _, number := range slices.Compact(numbers) {
		texts = append(texts, strconv.FormatInt(number, 10))
	}
	return texts
}

// asTheyAre tells all values.
func asTheyAre(values []string) []string {
	copies := make([]string, len(values))
	for i, value := range values {
		copies[i] = strings.Clone(value)
	}
	return copies
}

// first tells the first of the values, alone.
func first(values []string) []string {
	return asTheyAre(values[:1])
}

// numbersOf tells the numbers among the values.
func numbersOf(values []string) []int64 {
	var numbers []int64
	for _, value := range values {
		if number, is := numberOf(value); is {
			numbers = append(numbers, number)
		}
	}
	return numbers
}

// numberOf tells which number a text is, if it is one.
func numberOf(text string) (int64, bool) {
	number, err := strconv.ParseInt(text, 10, 64)
	// The library takes a plus, needless zeros and -0, too: a number is written in one way alone.
	if err != nil || strconv.FormatInt(number, 10) != text {
		return 0, false
	}
	return number, true
}
