package fan

import "sync"

// handOut has workers do the numbers below count, which go to them rising, until all are done, or done is closed. No worker is left when it answers.
func handOut(count, workers int, done <-chan struct{}, do func(int)) {
	numbers := make(chan int)
	var crew sync.WaitGroup
	for range min(workers, count) {
		crew.Add(1)
		go func() {
			defer crew.Done()
			for n := range numbers {
				do(n)
			}
		}()
	}
	send(numbers, count, done)
	crew.Wait()
}

// send closes the channel behind the last number, so that the workers end.
func send(numbers chan<- int, count int, done <-chan struct{}) {
	defer close(numbers)
	for n := range count {
		select {
		case numbers <- n:
		case <-done:
			return
		}
	}
}
