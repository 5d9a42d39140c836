package check

// most is where days and measures stop: whatever is above it counts as it.
const most = 1 << 30

// plus adds numbers that are not below 0. Each is cut ahead of being added, so that no sum is too great for an int.
func plus(numbers ...int) int {
	sum := 0
	for _, n := range numbers {
		sum = min(sum+min(n, most), most)
	}
	return sum
}

// times multiplies two numbers that are not below 0.
func times(a, b int) int {
	return min(min(a, most)*min(b, most), most)
}
