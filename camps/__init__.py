"""Two camps, districts, and a majority by so few."""
